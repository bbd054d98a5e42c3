/-
  DskX / DskY / DskZ / DskZb / DskZc / DskZd / DskZe.
-/
import Derived.Test.YtmloljjllmmkoaaGreatMC
import Derived.OwnWalk
import Derived.RegionTactic
import Derived.BigRegion
import Derived.Laws.AppendOwnNone
import Derived.Deep.AppendLies
import Derived.Maps.AppendAt
import Derived.Deep.RegionLaw
import Derived.Deep.Onto
import Derived.Test.YtmloljjllmmkoaaGreatDskEb
namespace Go.Proofs.YtmloljjllmmkoaaGreat
open Go.RowKit Go Go.Maps SM

theorem step_append_own {P : Program} (w : World) {ops : Array Oper} {o : Oper} {a : Act} {K : Act → World → Prop} {Q : Exit → Act → World → Prop} {E : Prop} (hgd : o.guard = none) (s x : Operand) (t : TypeId)
    (ho : o.op = .call { callee := .builtin .append, args := #[s, x], argTypes := #[t, t] })
    (base : Nat) (e : TypeId) (i : TypeInfo) (z : Value) (size bytes : Nat) (ht : P.underlying t = some (.slice e)) (hi : P.info? e = some i) (hz : i.zero = some z)
    (hsize : i.size = size) (hby : i.bytes = bytes) (hzs : z.cells.size = size) (hsz : 0 < size)
    (v : Value) (n : Nat) (xs : List Value) (hs : a.eval s = v) (hown : w.ownsRow base e size v n xs)
    (ad : Addr) (m c : Nat) (news : List Value) (hx : a.eval x = .slice (some ad) m c) (hl : news.length = m * size) (hnews : ∀ j u, news[j]? = some u → w.cell? (ad.add j) = some u) (h1 : ∀ u ∈ news, u.oneCell' = true)
    (h63 : n + m ≤ maxLen) (hbytes : (n + m) * bytes ≤ 140737488355328) (hbase : base ≤ w.heap.size)
    (h : ∀ v' w', w'.ownsRow base e size v' (n + m) (xs ++ news) → w.grownBy w' v.ownBlock → (v'.ownBlock = v.ownBlock ∨ v'.ownBlock = some w.heap.size) → (v' = .slice none 0 0 → v = .slice none 0 0) → K (a.put o.dst v') w') :
    if Region.wanted o (yielded ops a.tmps) = true then Oper.wp P o a w K Q else E := by
  have hw : Region.wanted o (yielded ops a.tmps) = true := by simp [Region.wanted, hgd]
  rw [if_pos hw]
  obtain ⟨v', w', hr, h2, h3, h4, h5⟩ := run_append_own_at (P := P) w base t o.type e i z size bytes ht hi hz hsize hby hzs hsz v n xs hown ad m c news hl hnews h1 h63 hbytes hbase
  unfold Oper.wp execOp
  simp only [ho, resolve, invoke, builtin, Sem.run_bind, Sem.run_pure, Result.andThen_ok, List.map_toArray, List.map_cons, List.map_nil, hs, hx, hr]
  exact h v' w' h2 h3 h5 (fun e => (h4.1 e).1)

theorem infoStr : (Tryz.prog.info? 9).map (fun i => (i.zero, i.size, i.bytes)) = some (some (.string ⟨#[]⟩), 1, 16) := by kernel_rfl
def RO (v0 v1 v2 : Value) (made armed : Nat) (kp : ByteArray) (dead : Bool) : Obj := .cells #[v0, v1, v2, .int .i64 made, .int .i64 armed, .string kp, .bool dead] 108 (0, 0)
section
variable {w : World} {r made armed : Nat} {v0 v1 v2 : Value} {kp : ByteArray} {dead : Bool}
theorem RO.c0 (h : w.heap[r]? = some (RO v0 v1 v2 made armed kp dead)) : w.cell? ⟨r, 0, none⟩ = some v0 := by simp [World.cell?, h, RO]
theorem RO.c1 (h : w.heap[r]? = some (RO v0 v1 v2 made armed kp dead)) : w.cell? ⟨r, 1, none⟩ = some v1 := by simp [World.cell?, h, RO]
theorem RO.c2 (h : w.heap[r]? = some (RO v0 v1 v2 made armed kp dead)) : w.cell? ⟨r, 2, none⟩ = some v2 := by simp [World.cell?, h, RO]
theorem RO.c3 (h : w.heap[r]? = some (RO v0 v1 v2 made armed kp dead)) : w.cell? ⟨r, 3, none⟩ = some (.int .i64 made) := by simp [World.cell?, h, RO]
theorem RO.c4 (h : w.heap[r]? = some (RO v0 v1 v2 made armed kp dead)) : w.cell? ⟨r, 4, none⟩ = some (.int .i64 armed) := by simp [World.cell?, h, RO]
theorem RO.c5 (h : w.heap[r]? = some (RO v0 v1 v2 made armed kp dead)) : w.cell? ⟨r, 5, none⟩ = some (.string kp) := by simp [World.cell?, h, RO]
theorem RO.c6 (h : w.heap[r]? = some (RO v0 v1 v2 made armed kp dead)) : w.cell? ⟨r, 6, none⟩ = some (.bool dead) := by simp [World.cell?, h, RO]
theorem RO.fr (h : w.heap[r]? = some (RO v0 v1 v2 made armed kp dead)) (i : Nat) : w.frozen? ⟨r, i, none⟩ = false := by simp [World.frozen?, h, RO]
end
theorem row_shape {w : World} {base : Nat} {e : TypeId} {size : Nat} {v : Value} {n : Nat} {xs : List Value} (h : w.ownsRow base e size v n xs) : ∃ a cap, v = .slice a n cap := by
  rcases h.2 with ⟨rfl, h0⟩ | ⟨g, cap, cur, rfl, _⟩
  · exact ⟨none, 0, by rw [h0]⟩
  · exact ⟨_, _, rfl⟩
theorem strs_parts (x : ByteArray) (k : Nat) : strVals (parts x k) ++ [.string (x.extract (64 * k) (64 * k + 64))] = strVals (parts x (k + 1)) := by simp [strVals, parts_succ]

/-- a row while a cell of an object of another kind is turned -/
theorem owns_other {w : World} {base n size r i : Nat} {e t : TypeId} {v : Value} {xs : List Value} {C : Array Value} {f : Nat × Nat} (h : w.ownsRow base e size v n xs) (hr : w.heap[r]? = some (.cells C t f)) (hn : t ≠ e) (u : Value) : (w.setCell ⟨r, i, none⟩ u).ownsRow base e size v n xs :=
  owns_stay h ((Stir.refl (· = r) w).set (.inl rfl) u) (fun k hk e' => by
    obtain ⟨C', hC⟩ := owns_block h hk
    subst e'
    rw [hr] at hC
    simp at hC
    exact hn hC.2.1)
/-- in a round of Open's loop -/
def Opening (x : ByteArray) (w : World) (r j : Nat) (wr : World) : Prop := ∃ a c, wr.heap[r]? = some (RO (.slice a j c) (.slice none 0 0) (.slice none 0 0) 0 0 ⟨#[]⟩ false) ∧ wr.ownsRow w.heap.size 9 1 (.slice a j c) j (strVals (parts x j)) ∧ Below w.heap.size w wr

set_option maxRecDepth 100000 in
set_option maxHeartbeats 2000000 in
theorem ropen_yes (x : ByteArray) (k : Nat) (hx : x.size = 64 * k) (h1 : 1 ≤ k) (h2 : k ≤ 16384) (w : World) :
    Calls Tryz.prog 39 #[.string x] w fun e w' => e = .returned (.tuple #[.pointer (some ⟨w.heap.size, 0, none⟩), .int .i64 0]) ∧ Opening x w w.heap.size k w' := by
  obtain ⟨i0, hi, hz0, hz1, hz2⟩ := info_parts infoStr
  have e0 : ((x.size : Int) == 0) = false := beq_eq_false_iff_ne.2 (by omega)
  have e1 : ((x.size : Int) % 64 != 0) = false := by
    have : (x.size : Int) % 64 = 0 := by omega
    rw [this]; rfl
  have e2 : (x.size : Int) ≤ 1048576 := by omega
  have HX := Lib.hid hx
  have H0 := Lib.hid (show Opening x w w.heap.size 0 (w.alloc (RO (.slice none 0 0) (.slice none 0 0) (.slice none 0 0) 0 0 ⟨#[]⟩ false)) from ⟨none, 0, heap_alloc_new w _, World.ownsRow_nil _ _ _ _, (Below.refl _ w).alloc (Nat.le_refl _) _⟩)
  unfold RO at H0
  clear hx
  go_enter Tryz.func39, Tryz.ntmps39
  go_wp2
  clear e0 e1 e2
  go_loopw [5] (fun i wr => ∃ j : Nat, j ≤ k ∧ i = .int .i64 (64 * (j : Int)) ∧ Opening x w w.heap.size j wr) (fun i _ => 64 * k - (intOf i).toNat)
  case atStart => exact ⟨0, Nat.zero_le _, rfl, H0.out⟩
  case round =>
    obtain ⟨j, hj, rfl, a, c, ho, hr, hB⟩ := hrel
    by_cases hjk : j < k
    · have e3 : 64 * (j : Int) < (x.size : Int) := by have := HX.out; omega
      have hsl := fun W => part_run W x j (by have := HX.out; omega)
      obtain ⟨y, hy⟩ : ∃ y, x.extract (64 * j) (64 * j + 64) = y := ⟨_, rfl⟩
      have HP := Lib.hid (show strVals (parts x j) ++ [.string y] = strVals (parts x (j + 1)) by rw [← hy]; exact strs_parts x j)
      rw [hy] at hsl
      clear hy
      have hwr : IntKind.i64.wrap (64 * (j : Int) + 64) = 64 * (j : Int) + 64 := wrapI _ (by omega) (by omega)
      obtain ⟨w2, hw2⟩ : ∃ w2, wr.drew.alloc (.cells #[.string y] 9) = w2 := ⟨_, rfl⟩
      have hB2 : Below wr.heap.size wr w2 := by rw [← hw2]; exact (show Below wr.heap.size wr wr.drew from (Below.refl _ _).drew).alloc (Nat.le_refl _) _
      have c0 := RO.c0 ho
      have c0a : w2.cell? ⟨w.heap.size, 0, none⟩ = some (.slice a j c) := RO.c0 (keeps_of hB2 ho)
      have r2 := owns_below hr hB2
      have hN : ∀ (i : Nat) (u : Value), [Value.string y][i]? = some u → w2.cell? ((⟨wr.heap.size, 0, none⟩ : Addr).add i) = some u := by
        rw [← hw2]
        exact cell_one_new wr.drew (.string y) 9
      have HB2 := Lib.hid (hB.trans (hB2.mono hB.size))
      have HO2 := Lib.hid (keeps_of hB2 ho)
      have HR2 := Lib.hid r2
      have HN := Lib.hid hN
      have HL := Lib.hid (show w.heap.size ≤ w2.heap.size from HB2.out.size)
      clear ho hr hB r2 hN hB2 H0
      go_wp2_with fail
      go_region_law (first
        | (refine step_append_own _ (by rfl) (.tmp 32) (.tmp 38) _ (by rfl) w.heap.size 9 i0 (.string ⟨#[]⟩) 1 16 Tryz.underlying22 hi hz0 hz1 hz2 rfl (by decide) _ j _ (by rfl) HR2.out ⟨wr.heap.size, 0, none⟩ 1 1 [.string y] (by rfl) rfl HN.out (by simp [Value.oneCell']) (by unfold maxLen; omega) (by omega) HL.out ?_; intro v' w3 hrow3 hgrow3 _ _; obtain ⟨a3, c3, rfl⟩ := row_shape hrow3; have HB3 := Lib.hid (HB2.out.grown hgrow3 HL.out (fun j hj => (HR2.out.lt j hj).1)); have hO3 := (stir_of_grown hgrow3).keep HO2.out (fun e => by obtain ⟨C, hC⟩ := owns_block HR2.out e; rw [HO2.out] at hC; simp [RO] at hC); have d0 := RO.c0 hO3; have g0 := RO.fr hO3 0; rw [HP.out] at hrow3; have HO3 := Lib.hid hO3; have HR3 := Lib.hid hrow3; clear hO3 hrow3 hgrow3))
      all_goals (
        clear c0 c0a hsl
        go_wp2
        go_roundw
        case rel =>
          refine ⟨j + 1, by omega, ?_, a3, c3, by rw [heap_set HO3.out]; simp [RO], owns_other HR3.out HO3.out (by decide) _, HB3.out.setCell (p := ⟨w.heap.size, 0, none⟩) (Nat.le_refl _) _⟩
          rw [show (64 * ((j + 1 : Nat) : Int)) = 64 * (j : Int) + 64 by omega]
        case measure => have := HX.out; simp [intOf]; omega)
    · have e3 : ¬ 64 * (j : Int) < (x.size : Int) := by have := HX.out; omega
      have HO := Lib.hid ho
      have HR := Lib.hid hr
      have HB := Lib.hid hB
      clear ho hr hB
      go_wp2
      go_ret2
      obtain rfl : j = k := by omega
      exact ⟨rfl, a, c, HO.out, HR.out, HB.out⟩

set_option maxRecDepth 100000 in
theorem ropen_no (x : ByteArray) (hs : x.size ≤ 140737488355328) (h : x.size = 0 ∨ x.size % 64 ≠ 0 ∨ 1048576 < x.size) (w : World) :
    Calls Tryz.prog 39 #[.string x] w fun e w' => e = .returned (.tuple #[.pointer none, .int .i64 60]) ∧ w = w' := by
  by_cases h1 : x.size = 0
  · have e0 : ((x.size : Int) == 0) = true := beq_iff_eq.2 (by omega)
    clear h
    go_enter Tryz.func39, Tryz.ntmps39
    go_wp2
    go_ret2
    exact ⟨rfl, rfl⟩
  · have e0 : ((x.size : Int) == 0) = false := beq_eq_false_iff_ne.2 (by omega)
    by_cases h2 : x.size % 64 = 0
    · have h3 : (1048576 : Int) < (x.size : Int) := by omega
      have e1 : ((x.size : Int) % 64 != 0) = false := by
        have : (x.size : Int) % 64 = 0 := by omega
        rw [this]; rfl
      clear h
      go_enter Tryz.func39, Tryz.ntmps39
      go_wp2
      go_ret2
      exact ⟨rfl, rfl⟩
    · have e1 : ((x.size : Int) % 64 != 0) = true := by
        have : (x.size : Int) % 64 ≠ 0 := by omega
        simpa using this
      clear h
      go_enter Tryz.func39, Tryz.ntmps39
      go_wp2
      go_ret2
      exact ⟨rfl, rfl⟩

/-! ### A text of noughts -/
def nought (k : Nat) : ByteArray := ⟨(List.replicate k (0 : UInt8)).toArray⟩
theorem size_nought (k : Nat) : (nought k).size = k := by simp [nought, ByteArray.size]
theorem nought_part {n j : Nat} (h : 64 * j + 64 ≤ n) : (nought n).extract (64 * j) (64 * j + 64) = zero64 := by
  apply ByteArray.ext
  apply Array.toList_inj.1
  rw [Lib.extract_data]
  simp only [nought, zero64, List.drop_replicate, List.take_replicate]
  rw [show min (64 * j + 64 - 64 * j) (n - 64 * j) = 64 by omega]
theorem parts_blank {x : ByteArray} {k : Nat} (h : ∀ j, j < k → x.extract (64 * j) (64 * j + 64) = zero64) : parts x k = blank k := by
  refine List.ext_getElem (by simp [parts, blank]) (fun i h1 h2 => ?_)
  have hi : i < k := by simpa [parts] using h1
  simp [parts, blank, h i hi]
theorem made_text (w : World) (k : Nat) (h : k ≤ 1048640) :
    (Instr.makeSlice 85 (.int .i64 (k : Int)) (.int .i64 (k : Int))).run Tryz.prog w = .ok (.slice (some ⟨w.heap.size, 0, none⟩) k k) (w.alloc (.cells (madeCells #[.int .u8 0] k) 5)) ∧
    (convert 85 9 (.slice (some ⟨w.heap.size, 0, none⟩) k k)).run Tryz.prog (w.alloc (.cells (madeCells #[.int .u8 0] k) 5)) = .ok (.string (nought k)) (w.alloc (.cells (madeCells #[.int .u8 0] k) 5)) := by
  obtain ⟨i0, hi, hz0, hz1, hz2⟩ := info_parts info5e
  have hmk := run_makeSlice (P := Tryz.prog) (w := w) 85 5 i0 (.int .u8 0) Tryz.underlying85 hi hz0 .i64 .i64 (k : Int) (k : Int) (by omega) (by omega) (by rw [hz1]; omega) (by rw [hz2]; omega) (by omega)
  rw [hz1, Nat.mul_one, Int.toNat_natCast, show Value.cells (.int .u8 0) = #[.int .u8 0] from rfl] at hmk
  refine ⟨hmk, ?_⟩
  have := (made_row w k h).conv (o := 0) (n := k) (c := k) (by simp)
  rw [List.drop_zero, List.take_of_length_le (by simp)] at this
  exact this

/-- a new disk of the reference -/
def RNew (w : World) (r n : Nat) (w' : World) : Prop := w.heap.size ≤ r ∧ ∃ a c, w'.heap[r]? = some (RO (.slice a n c) (.slice none 0 0) (.slice none 0 0) 0 0 ⟨#[]⟩ false) ∧ w'.ownsRow w.heap.size 9 1 (.slice a n c) n (strVals (blank n)) ∧ Below w.heap.size w w'
set_option maxRecDepth 100000 in
theorem rnew_yes (n : Nat) (h1 : 1 ≤ n) (h2 : n ≤ 16384) (w : World) :
    Calls Tryz.prog 14 #[.int .i64 n] w fun e w' => ∃ r, e = .returned (.tuple #[.pointer (some ⟨r, 0, none⟩), .int .i64 0]) ∧ RNew w r n w' := by
  obtain ⟨m1, m2⟩ := made_text w (64 * n) (by omega)
  rw [show ((64 * n : Nat) : Int) = 64 * (n : Int) by omega] at m1
  obtain ⟨w1, hw1⟩ : ∃ w1, w.alloc (.cells (madeCells #[.int .u8 0] (64 * n)) 5) = w1 := ⟨_, rfl⟩
  rw [hw1] at m1 m2
  have hB : Below w.heap.size w w1 := by rw [← hw1]; exact (Below.refl _ w).alloc (Nat.le_refl _) _
  have hpn : parts (nought (64 * n)) n = blank n := parts_blank (fun j hj => nought_part (by omega))
  have C := ropen_yes (nought (64 * n)) n (size_nought _) h1 h2 w1
  unfold Opening at C
  rw [hpn] at C
  have HB := Lib.hid hB
  generalize nought (64 * n) = X at m2 C
  clear hw1 hB hpn
  go_enter Tryz.func14, Tryz.ntmps14
  go_wp2_with fail
  refine C.mono ?_
  rintro e w2 ⟨rfl, a, c, ho, hr, hB2⟩
  have HO := Lib.hid ho
  have HR := Lib.hid hr
  have HB2 := Lib.hid (HB.out.trans (hB2.mono HB.out.size))
  clear ho hr hB2 m1 m2
  go_wp2
  go_ret2
  exact ⟨_, rfl, HB.out.size, a, c, HO.out, HR.out.mono HB.out.size, HB2.out⟩
theorem rnew_no (n : Int) (h : n < 1 ∨ 16384 < n) (w : World) :
    Calls Tryz.prog 14 #[.int .i64 n] w fun e w' => e = .returned (.tuple #[.pointer none, .int .i64 60]) ∧ w = w' := by
  by_cases h1 : n < 1
  · clear h
    go_enter Tryz.func14, Tryz.ntmps14
    go_wp2
    go_ret2
    exact ⟨rfl, rfl⟩
  · have h2 : 16384 < n := by omega
    clear h
    go_enter Tryz.func14, Tryz.ntmps14
    go_wp2
    go_ret2
    exact ⟨rfl, rfl⟩
end Go.Proofs.YtmloljjllmmkoaaGreat

namespace Go.Proofs.YtmloljjllmmkoaaGreat
open Go.RowKit Go Go.Maps SM

theorem img_snoc' (l : List ByteArray) (x : ByteArray) : img (l ++ [x]) = img l ++ x := by
  apply ByteArray.ext
  apply Array.toList_inj.1
  simp [img, flat_append, flat_cons, flat_nil, ByteArray.data_append]
def looseCells (l : List (Int × ByteArray)) : List Value := l.flatMap fun q => [.int .i64 q.1, .string q.2]
theorem looseCells_length (l : List (Int × ByteArray)) : (looseCells l).length = l.length * 2 := by
  induction l with
  | nil => rfl
  | cons q r ih =>
    have e : looseCells (q :: r) = [.int .i64 q.1, .string q.2] ++ looseCells r := rfl
    rw [e, List.length_append, ih, List.length_cons, List.length_cons, List.length_cons, List.length_nil]
    omega
theorem looseCells_at : ∀ (l : List (Int × ByteArray)) (i : Nat) (h : i < l.length), (looseCells l)[i * 2]? = some (.int .i64 l[i].1) ∧ (looseCells l)[i * 2 + 1]? = some (.string l[i].2)
  | [], _, h => by simp at h
  | q :: r, 0, _ => by simp [looseCells]
  | q :: r, i + 1, h => by
    have := looseCells_at r i (by simpa using h)
    have e : looseCells (q :: r) = [.int .i64 q.1, .string q.2] ++ looseCells r := rfl
    rw [e, show (i + 1) * 2 = i * 2 + 2 by omega, show i * 2 + 2 + 1 = (i * 2 + 1) + 2 by omega]
    simpa using this
theorem looseCells_append (a b : List (Int × ByteArray)) : looseCells (a ++ b) = looseCells a ++ looseCells b := by simp [looseCells]
theorem looseCells_one (l : List (Int × ByteArray)) : ∀ u ∈ looseCells l, u.oneCell' = true := by
  intro u hu
  simp only [looseCells, List.mem_flatMap] at hu
  obtain ⟨q, _, hq⟩ := hu
  simp at hq
  rcases hq with rfl | rfl <;> rfl

/-- the reference's disk: its three rows, each of a kind of its own -/
structure RefAt (r base : Nat) (s : DS) (zs : List Int) (v0 v1 v2 : Value) (kp : ByteArray) (w : World) : Prop where
  obj : w.heap[r]? = some (RO v0 v1 v2 s.made s.armed kp s.dead)
  st : w.ownsRow base 9 1 v0 s.stay.length (strVals s.stay)
  lo : w.ownsRow base 111 2 v1 s.loose.length (looseCells s.loose)
  ba : w.ownsRow base 3 1 v2 zs.length (intVals zs)
  bads : ∀ k, decide (k ∈ zs) = s.bad k
  few : zs.length ≤ 1099511627776
  keep : s.armed ≠ 0 → kp = s.keep
  kple : kp.size ≤ 140737488355328
  low : base ≤ r
section
variable {r base : Nat} {s : DS} {zs : List Int} {v0 v1 v2 : Value} {kp : ByteArray} {w w' : World}
theorem RefAt.below (h : RefAt r base s zs v0 v1 v2 kp w) (hB : Below w.heap.size w w') : RefAt r base s zs v0 v1 v2 kp w' :=
  ⟨keeps_of hB h.obj, owns_below h.st hB, owns_below h.lo hB, owns_below h.ba hB, h.bads, h.few, h.keep, h.kple, h.low⟩
theorem RefAt.stay {F : Nat → Prop} (h : RefAt r base s zs v0 v1 v2 kp w) (k : Stir F w w') (hn : ∀ i C t f, w.heap[i]? = some (.cells C t f) → t ≠ 153 → t ≠ 5 → ¬ F i) : RefAt r base s zs v0 v1 v2 kp w' :=
  ⟨k.keep h.obj (hn _ _ _ _ h.obj (by decide) (by decide)), owns_stay h.st k (fun i hi => by obtain ⟨C, hC⟩ := owns_block h.st hi; exact hn _ _ _ _ hC (by decide) (by decide)), owns_stay h.lo k (fun i hi => by obtain ⟨C, hC⟩ := owns_block h.lo hi; exact hn _ _ _ _ hC (by decide) (by decide)),
    owns_stay h.ba k (fun i hi => by obtain ⟨C, hC⟩ := owns_block h.ba hi; exact hn _ _ _ _ hC (by decide) (by decide)), h.bads, h.few, h.keep, h.kple, h.low⟩
/-- the reference, while the disk does something -/
theorem RefAt.disk {b g m : Nat} {t : DS} (h : RefAt r base s zs v0 v1 v2 kp w) (hd : DiskAt b g m t w) (k : Stir (Foot b g m) w w') : RefAt r base s zs v0 v1 v2 kp w' :=
  h.stay k (fun _ _ _ _ hC h1 h2 => hd.not_cells hC h1 h2)
theorem RefAt.v0_is (h : RefAt r base s zs v0 v1 v2 kp w) (hk : 1 ≤ s.stay.length) : ∃ q c, v0 = .slice (some ⟨q, 0, none⟩) s.stay.length c ∧ (∃ C, w.heap[q]? = some (.cells C 9 (0, 0))) ∧ ∀ i (_ : i < s.stay.length), w.cell? ⟨q, i, none⟩ = some (.string (s.stay.getD i none0)) := by
  have hst := h.st
  rcases h.st.2 with ⟨_, h0⟩ | ⟨q, c, cur, rfl, _, hg, _⟩
  · omega
  · refine ⟨q, c, rfl, ⟨cur, hg⟩, fun i hi => ?_⟩
    rw [hst.cellAt i (by omega)]
    simp [strVals, hi]
theorem RefAt.v1_cells (h : RefAt r base s zs v0 v1 v2 kp w) {i : Nat} (hi : i < s.loose.length) : ∃ q c, v1 = .slice (some ⟨q, 0, none⟩) s.loose.length c ∧ w.cell? ⟨q, i * 2, none⟩ = some (.int .i64 s.loose[i].1) ∧ w.cell? ⟨q, i * 2 + 1, none⟩ = some (.string s.loose[i].2) := by
  have hlo := h.lo
  rcases h.lo.2 with ⟨_, h0⟩ | ⟨q, c, cur, rfl, _, hg, _⟩
  · omega
  · refine ⟨q, c, rfl, ?_, ?_⟩
    · rw [hlo.cellAt _ (by omega)]; exact (looseCells_at _ i hi).1
    · rw [hlo.cellAt _ (by omega)]; exact (looseCells_at _ i hi).2
theorem RefAt.v2_cells (h : RefAt r base s zs v0 v1 v2 kp w) {i : Nat} (hi : i < zs.length) : ∃ q c, v2 = .slice (some ⟨q, 0, none⟩) zs.length c ∧ w.cell? ⟨q, i, none⟩ = some (.int .i64 zs[i]) := by
  have hba := h.ba
  rcases h.ba.2 with ⟨_, h0⟩ | ⟨q, c, cur, rfl, _, hg, _⟩
  · omega
  · refine ⟨q, c, rfl, ?_⟩
    rw [hba.cellAt _ (by omega)]
    simp [intVals, hi]
/-- a cell of the object is turned -/
theorem RefAt.cell (h : RefAt r base s zs v0 v1 v2 kp w) {s' : DS} {kp' : ByteArray} (i : Nat) (x : Value) (h1 : s'.stay = s.stay) (h2 : s'.loose = s.loose) (h3 : s'.bad = s.bad) (h4 : s'.armed ≠ 0 → kp' = s'.keep) (h5 : kp'.size ≤ 140737488355328)
    (ho : (w.setCell ⟨r, i, none⟩ x).heap[r]? = some (RO v0 v1 v2 s'.made s'.armed kp' s'.dead)) : RefAt r base s' zs v0 v1 v2 kp' (w.setCell ⟨r, i, none⟩ x) :=
  ⟨ho, by rw [h1]; exact owns_other h.st h.obj (by decide) x, by rw [h2]; exact owns_other h.lo h.obj (by decide) x, owns_other h.ba h.obj (by decide) x, fun k => by rw [h3]; exact h.bads k, h.few, h4, h5, h.low⟩

theorem rmay_at (h : RefAt r base s zs v0 v1 v2 kp w) (hk : s.Ok) (n : Int) (hn : I64 n) :
    Calls Tryz.prog 57 #[.pointer (some ⟨r, 0, none⟩), .int .i64 n] w fun e w' => e = .returned (.int .i64 (s.may n)) ∧ w = w' := by
  obtain ⟨q, c, rfl, _, _⟩ := h.v0_is hk.pos
  have c0 := RO.c0 h.obj
  have c6 := RO.c6 h.obj
  have hle := hk.le
  unfold DS.may
  obtain ⟨h1, h2⟩ := hn
  generalize s.stay.length = N at c0 hle ⊢
  cases hd : s.dead with
  | true =>
    rw [hd] at c6
    clear h hk hd
    go_enter Tryz.func57, Tryz.ntmps57
    go_wp2
    go_ret
    exact ⟨rfl, rfl⟩
  | false =>
    rw [hd] at c6
    clear h hk hd
    by_cases h0 : n < 0
    · go_enter Tryz.func57, Tryz.ntmps57
      go_wp2
      go_ret
      exact ⟨by simp, rfl⟩
    · by_cases h3 : (N : Int) ≤ n
      · go_enter Tryz.func57, Tryz.ntmps57
        go_wp2
        go_ret
        exact ⟨by simp, rfl⟩
      · go_enter Tryz.func57, Tryz.ntmps57
        go_wp2
        go_ret
        exact ⟨by simp, rfl⟩

set_option maxRecDepth 100000 in
theorem risBad_at (h : RefAt r base s zs v0 v1 v2 kp w) (n : Int) :
    Calls Tryz.prog 58 #[.pointer (some ⟨r, 0, none⟩), .int .i64 n] w fun e w' => e = .returned (.bool (s.bad n)) ∧ w = w' := by
  obtain ⟨a2, k2, rfl⟩ := row_shape h.ba
  have c2 := RO.c2 h.obj
  have HC := Lib.hid (fun i (hi : i < zs.length) => h.v2_cells hi)
  have HF := Lib.hid h.few
  rw [← h.bads n]
  clear h
  go_enter Tryz.func58, Tryz.ntmps58
  go_wp2
  go_loop [5] (fun i => ∃ k : Nat, k ≤ zs.length ∧ i = .int .i64 k ∧ ∀ j (_ : j < k) (hj : j < zs.length), zs[j] ≠ n) (fun i => zs.length - (intOf i).toNat)
  case atStart => exact ⟨0, Nat.zero_le _, rfl, fun j hj _ => by omega⟩
  case round =>
    obtain ⟨k, hk, rfl, hno⟩ := hrel
    have HN := Lib.hid hno
    have hf := HF.out
    clear hno
    by_cases hlt : k < zs.length
    · obtain ⟨q, c, e, hc⟩ := HC.out k hlt
      simp only [Value.slice.injEq] at e
      obtain ⟨rfl, -, rfl⟩ := e
      have hki : (k : Int) < (zs.length : Int) := by omega
      have HM := Lib.hid (List.getElem_mem hlt)
      have HNX := Lib.hid (fun (hz : zs[k] ≠ n) j (hj : j < k + 1) (hl : j < zs.length) => show zs[j] ≠ n by
        by_cases e : j = k
        · subst e; exact hz
        · exact HN.out j (by omega) hl)
      generalize zs[k] = z at hc HM HNX
      by_cases hz : z = n
      · subst hz
        go_wp2
        go_ret
        exact ⟨by simp [HM.out], rfl⟩
      · have hzb : (z == n) = false := beq_eq_false_iff_ne.2 hz
        go_wp2
        go_round
        case rel => exact ⟨k + 1, by omega, by go_num, HNX.out hz⟩
        case measure => simp [intOf]; omega
    · have hki : ¬ (k : Int) < (zs.length : Int) := by omega
      go_wp2
      go_ret
      refine ⟨?_, rfl⟩
      have : n ∉ zs := fun hm => by
        obtain ⟨j, hj, e⟩ := List.mem_iff_getElem.1 hm
        exact HN.out j (by omega) hj e
      simp [this]

end
end Go.Proofs.YtmloljjllmmkoaaGreat

namespace Go.Proofs.YtmloljjllmmkoaaGreat
open Go.RowKit Go Go.Maps SM

/-- what a call of the reference turns: blocks of its own kinds -/
def RStir (base : Nat) (w w' : World) : Prop := ∃ F : Nat → Prop, Stir F w w' ∧ ∀ i, F i → ∃ C t f, w.heap[i]? = some (.cells C t f) ∧ (t = 108 ∨ t = 9) ∧ base ≤ i
section
variable {base : Nat} {w w' w'' : World}
theorem RStir.refl (base : Nat) (w : World) : RStir base w w := ⟨fun _ => False, Stir.refl _ w, fun _ h => h.elim⟩
theorem RStir.of_below (h : Below w.heap.size w w') : RStir base w w' := ⟨fun _ => False, Stir.of_below h, fun _ h => h.elim⟩
theorem DiskAt.ref {b g m : Nat} {s : DS} (h : DiskAt b g m s w) (k : RStir base w w') : DiskAt b g m s w' := by
  obtain ⟨F, hs, hF⟩ := k
  exact h.stay hs (fun i hi hf => by
    obtain ⟨C, t, f, hC, rfl | rfl, _⟩ := hF i hf
    · exact h.not_cells hC (by decide) (by decide) hi
    · exact h.not_cells hC (by decide) (by decide) hi)
theorem RStir.below {B : Nat} {w0 : World} (k : RStir B w w') (h0 : Below B w0 w) (hB : B ≤ w.heap.size) : Below B w0 w' := by
  obtain ⟨F, hs, hF⟩ := k
  exact h0.trans (hs.below (fun i hi => by obtain ⟨C, t, f, _, _, h⟩ := hF i hi; exact h) hB)
/-- a block of another kind stays -/
theorem RStir.keep (k : RStir base w w') {i : Nat} {t : TypeId} {C : Array Value} {f : Nat × Nat} (h : w.heap[i]? = some (.cells C t f)) (h1 : t ≠ 108) (h2 : t ≠ 9) : w'.heap[i]? = some (.cells C t f) := by
  obtain ⟨F, hs, hF⟩ := k
  exact hs.keep h (fun hi => by
    obtain ⟨C', t', f', hC, ht, _⟩ := hF i hi
    rw [h] at hC
    simp at hC
    rcases ht with e | e
    · exact h1 (hC.2.1.trans e)
    · exact h2 (hC.2.1.trans e))
end

section
variable {r base : Nat} {s : DS} {zs : List Int} {v0 v1 v2 : Value} {kp : ByteArray} {w w' : World}
/-- what the reference's own blocks are -/
def RF (r : Nat) (v0 : Value) : Nat → Prop := fun k => k = r ∨ v0.ownBlock = some k
theorem RefAt.stir (h : RefAt r base s zs v0 v1 v2 kp w) (k : Stir (RF r v0) w w') : RStir base w w' :=
  ⟨_, k, fun i hi => by
    rcases hi with rfl | hi
    · exact ⟨_, _, _, h.obj, .inl rfl, h.low⟩
    · obtain ⟨C, hC⟩ := owns_block h.st hi
      exact ⟨C, _, _, hC, .inr rfl, (h.st.lt _ hi).1⟩⟩

set_option maxRecDepth 100000 in
theorem rstep_at (h : RefAt r base s zs v0 v1 v2 kp w) (hk : s.armed ≤ 9223372036854775807) (hm : s.made < 1099511627776) :
    Calls Tryz.prog 59 #[.pointer (some ⟨r, 0, none⟩)] w fun e w' => e = .returned (.bool (s.armed == 1)) ∧ RefAt r base s.tick zs v0 v1 v2 kp w' ∧ Stir (RF r v0) w w' := by
  have c3 := RO.c3 h.obj
  have f3 := RO.fr h.obj 3
  have harm := hk
  by_cases ha : s.armed = 0
  · have h1 : RefAt r base s.tick zs v0 v1 v2 kp (w.setCell ⟨r, 3, none⟩ (.int .i64 ((s.made : Int) + 1))) :=
      h.cell (s' := s.tick) (kp' := kp) 3 _ rfl rfl rfl (by simp [DS.tick, ha]) h.kple (by rw [heap_set h.obj]; simp [RO, DS.tick, ha])
    have S1 : Stir (RF r v0) w (w.setCell ⟨r, 3, none⟩ (.int .i64 ((s.made : Int) + 1))) := (Stir.refl (RF r v0) w).set (.inl (.inl rfl)) _
    have c4 : (w.setCell ⟨r, 3, none⟩ (.int .i64 ((s.made : Int) + 1))).cell? ⟨r, 4, none⟩ = some (.int .i64 0) := by
      have := RO.c4 h1.obj
      simpa [DS.tick, ha] using this
    have e1 : (s.armed == 1) = false := by rw [ha]; rfl
    rw [e1]
    have H1 := Lib.hid h1
    have HS := Lib.hid S1
    clear h h1 S1 hk ha e1
    generalize s.made = M at *
    go_enter Tryz.func59, Tryz.ntmps59
    go_wp2
    go_ret
    exact ⟨rfl, H1.out, HS.out⟩
  · obtain ⟨a, ea⟩ : ∃ a, s.armed = a + 1 := ⟨s.armed - 1, by omega⟩
    have h1 : RefAt r base { s with made := s.made + 1 } zs v0 v1 v2 kp (w.setCell ⟨r, 3, none⟩ (.int .i64 ((s.made : Int) + 1))) :=
      h.cell (s' := { s with made := s.made + 1 }) (kp' := kp) 3 _ rfl rfl rfl h.keep h.kple (by rw [heap_set h.obj]; simp [RO])
    have h2 : RefAt r base s.tick zs v0 v1 v2 kp ((w.setCell ⟨r, 3, none⟩ (.int .i64 ((s.made : Int) + 1))).setCell ⟨r, 4, none⟩ (.int .i64 (a : Int))) :=
      h1.cell (s' := s.tick) (kp' := kp) 4 _ rfl rfl rfl (fun _ => h.keep (by omega)) h.kple (by rw [heap_set h1.obj]; simp [RO, DS.tick, ea])
    have S2 : Stir (RF r v0) w ((w.setCell ⟨r, 3, none⟩ (.int .i64 ((s.made : Int) + 1))).setCell ⟨r, 4, none⟩ (.int .i64 (a : Int))) := ((Stir.refl (RF r v0) w).set (.inl (.inl rfl)) _).set (.inl (.inl rfl)) _
    have c4 : (w.setCell ⟨r, 3, none⟩ (.int .i64 ((s.made : Int) + 1))).cell? ⟨r, 4, none⟩ = some (.int .i64 ((a : Int) + 1)) := by
      have := RO.c4 h1.obj
      rw [this, show ({ s with made := s.made + 1 } : DS).armed = a + 1 from ea]
      simp
    have f4 : (w.setCell ⟨r, 3, none⟩ (.int .i64 ((s.made : Int) + 1))).frozen? ⟨r, 4, none⟩ = false := RO.fr h1.obj 4
    have c4' : ((w.setCell ⟨r, 3, none⟩ (.int .i64 ((s.made : Int) + 1))).setCell ⟨r, 4, none⟩ (.int .i64 (a : Int))).cell? ⟨r, 4, none⟩ = some (.int .i64 (a : Int)) := by
      have := RO.c4 h2.obj
      simpa [DS.tick, ea] using this
    have e1 : (s.armed == 1) = ((a : Int) == 0) := by
      rw [ea]
      by_cases e : a = 0
      · subst e; rfl
      · rw [beq_eq_false_iff_ne.2 (by omega), beq_eq_false_iff_ne.2 (by omega)]
    rw [e1]
    have H2 := Lib.hid h2
    have HS := Lib.hid S2
    have ha1 : (a : Int) ≤ 9223372036854775806 := by omega
    clear h h1 h2 S2 hk ha e1 ea harm
    generalize s.made = M at *
    go_enter Tryz.func59, Tryz.ntmps59
    go_wp2
    go_ret
    exact ⟨rfl, H2.out, HS.out⟩

/-- some loose sectors have been laid down -/
def DS.upTo (s : DS) (f : Nat → Bool) (k : Nat) : DS := { s with stay := laid (fun p => decide (p < k) && f p) s.loose s.stay }
theorem upTo_zero (s : DS) (f : Nat → Bool) : s.upTo f 0 = s := by
  simp [DS.upTo, laid_none]
theorem upTo_all (s : DS) (f : Nat → Bool) : (s.upTo f s.loose.length).stay = laid f s.loose s.stay := by
  exact laid_congr (f := fun p => decide (p < s.loose.length) && f p) (g := f) (l := s.loose) (fun p hp => by simp [hp]) s.stay
theorem upTo_len (s : DS) (f : Nat → Bool) (k : Nat) : (s.upTo f k).stay.length = s.stay.length := length_laid (fun p => decide (p < k) && f p) s.loose s.stay
theorem upTo_skip (hk : s.Ok) (f : Nat → Bool) {k : Nat} (h : k < s.loose.length) (hf : f k = false) : s.upTo f (k + 1) = s.upTo f k := by
  unfold DS.upTo
  rw [laid_snoc hk.nd f k h s.stay (hk.key _ (List.getElem_mem h)).1, hf]
  rfl
theorem upTo_put (hk : s.Ok) (f : Nat → Bool) {k : Nat} (h : k < s.loose.length) (hf : f k = true) : (s.upTo f (k + 1)).stay = (s.upTo f k).stay.set s.loose[k].1.toNat s.loose[k].2 := by
  show laid (fun p => decide (p < k + 1) && f p) s.loose s.stay = (laid (fun p => decide (p < k) && f p) s.loose s.stay).set _ _
  rw [laid_snoc hk.nd f k h s.stay (hk.key _ (List.getElem_mem h)).1, hf, if_pos rfl]
/-- a store into the row of what stays -/
theorem RefAt.laid {q c : Nat} (h : RefAt r base s zs (.slice (some ⟨q, 0, none⟩) s.stay.length c) v1 v2 kp w) {s' : DS} {j : Nat} {x : ByteArray} (h1 : s'.stay = s.stay.set j x) (h2 : s'.loose = s.loose) (h3 : s'.bad = s.bad) (h4 : s'.made = s.made) (h5 : s'.armed = s.armed) (h6 : s'.keep = s.keep) (h7 : s'.dead = s.dead) :
    RefAt r base s' zs (.slice (some ⟨q, 0, none⟩) s.stay.length c) v1 v2 kp (w.setCell ⟨q, j, none⟩ (.string x)) := by
  obtain ⟨C, hC⟩ := owns_block h.st (show Value.ownBlock (.slice (some ⟨q, 0, none⟩) s.stay.length c) = some q from rfl)
  have hrq : r ≠ q := ne_of_heap h.obj hC (by simp [RO])
  refine ⟨by rw [heap_set_other h.obj hrq, h4, h5, h7], ?_, by rw [h2]; exact owns_other h.lo hC (by decide) _, owns_other h.ba hC (by decide) _, fun k => by rw [h3]; exact h.bads k, h.few, by rw [h5, h6]; exact h.keep, h.kple, h.low⟩
  have := (h.st.stored j (.string x)).1
  rw [h1, List.length_set, show strVals (s.stay.set j x) = (strVals s.stay).set j (.string x) by simp [strVals, List.map_set]]
  exact this

set_option maxRecDepth 100000 in
set_option maxHeartbeats 2000000 in
theorem rgoes_at (h : RefAt r base s zs v0 v1 v2 kp w) (hk : s.Ok) (hf : s.loose.length ≤ 1099511627776) {keep : ByteArray} (hkp : keep.size ≤ 140737488355328) :
    Calls Tryz.prog 60 #[.pointer (some ⟨r, 0, none⟩), .string keep] w fun e w' => e = .returned (.tuple #[]) ∧ (∃ v1' kp', RefAt r base (s.goes keep) zs v0 v1' v2 kp' w') ∧ Stir (RF r v0) w w' := by
  obtain ⟨a1, k1, rfl⟩ := row_shape h.lo
  obtain ⟨q, c, rfl, _, _⟩ := h.v0_is hk.pos
  have C := fun (k : Nat) (hk : k ≤ 1099511627776) w => rhas_any keep (k : Int) w hkp (by omega) (by omega)
  have H0 := Lib.hid h
  have HK := Lib.hid hk
  clear h
  go_enter Tryz.func60, Tryz.ntmps60
  go_wp2_with fail
  go_loopw [4] (fun i wr => ∃ k : Nat, k ≤ s.loose.length ∧ i = .int .i64 k ∧ RefAt r base (s.upTo (keepsAt keep) k) zs (.slice (some ⟨q, 0, none⟩) s.stay.length c) (.slice a1 s.loose.length k1) v2 kp wr ∧ Stir (RF r (.slice (some ⟨q, 0, none⟩) s.stay.length c)) w wr) (fun i _ => s.loose.length - (intOf i).toNat)
  case atStart => exact ⟨0, Nat.zero_le _, rfl, by rw [upTo_zero]; exact H0.out, Stir.refl _ _⟩
  case round =>
    obtain ⟨k, hkl, rfl, hr, hs⟩ := hrel
    have c1 := RO.c1 hr.obj
    have HR := Lib.hid hr
    have HS := Lib.hid hs
    clear hr hs H0 hk
    by_cases hlt : k < s.loose.length
    · have hki : (k : Int) < (s.loose.length : Int) := by omega
      have Ck := C k (by omega)
      cases hb : keepsAt keep k with
      | false =>
        have hb' : bitI keep.data.toList (k : Int) = false := hb
        rw [hb'] at Ck
        have HX := Lib.hid (show RefAt r base (s.upTo (keepsAt keep) (k + 1)) zs (.slice (some ⟨q, 0, none⟩) s.stay.length c) (.slice a1 s.loose.length k1) v2 kp wr by rw [upTo_skip HK.out _ hlt hb]; exact HR.out)
        clear hb hb' C
        go_wp2_with fail
        refine (Ck _).mono ?_
        rintro e w2 ⟨rfl, rfl⟩
        go_wp2_with fail
        go_roundw
        case rel => exact ⟨k + 1, by omega, by go_num, HX.out, HS.out⟩
        case measure => simp [intOf]; omega
      | true =>
        have hb' : bitI keep.data.toList (k : Int) = true := hb
        rw [hb'] at Ck
        obtain ⟨q1, c1', e1, hN, hS⟩ := HR.out.v1_cells (i := k) hlt
        simp only [Value.slice.injEq] at e1
        obtain ⟨rfl, -, hc1'⟩ := e1
        subst hc1'
        have hcN : wr.cell? ⟨q1, k * 2, none⟩ = some (.int .i64 s.loose[k].1) := hN
        have hcS : wr.cell? ⟨q1, k * 2 + 1, none⟩ = some (.string s.loose[k].2) := hS
        obtain ⟨k1', k2', k3'⟩ := HK.out.key _ (List.getElem_mem hlt)
        have hput := upTo_put HK.out (keepsAt keep) hlt hb
        obtain ⟨j, hj⟩ := Int.eq_ofNat_of_zero_le k1'
        rw [hj] at hcN k2'
        rw [hj, Int.toNat_natCast] at hput
        have hjn : j < s.stay.length := by omega
        have c0 := RO.c0 HR.out.obj
        have cQ : wr.cell? ⟨q, j, none⟩ = some (.string ((s.upTo (keepsAt keep) k).stay.getD j none0)) := by
          have hst := HR.out.st
          rw [upTo_len] at hst
          rw [hst.cellAt j (by omega)]
          simp [strVals, upTo_len, hjn]
        have fQ : wr.frozen? ⟨q, j, none⟩ = false := (by have hst := HR.out.st; rw [upTo_len] at hst; exact hst.frozenAt j)
        have hlen := upTo_len s (keepsAt keep) k
        have hX : RefAt r base (s.upTo (keepsAt keep) (k + 1)) zs (.slice (some ⟨q, 0, none⟩) s.stay.length c) (.slice (some ⟨q1, 0, none⟩) s.loose.length k1) v2 kp (wr.setCell ⟨q, j, none⟩ (.string s.loose[k].2)) := by
          have h0 := HR.out
          rw [← hlen] at h0 ⊢
          exact h0.laid hput rfl rfl rfl rfl rfl rfl
        have hS2 : Stir (RF r (.slice (some ⟨q, 0, none⟩) s.stay.length c)) w (wr.setCell ⟨q, j, none⟩ (.string s.loose[k].2)) := HS.out.set (.inl (.inr rfl)) _
        have HX := Lib.hid hX
        have HS2 := Lib.hid hS2
        generalize s.loose[k].2 = x at hcS HX HS2
        have hji : (j : Int) < (s.stay.length : Int) := by omega
        clear hb hb' C hN hS k1' k2' k3' hput hj hX hS2 hlen
        go_wp2_with fail
        refine (Ck _).mono ?_
        rintro e w2 ⟨rfl, rfl⟩
        go_wp2_with fail
        go_region
        all_goals (
          have HXd := Lib.hid (HX.out.below (Below.refl _ _).drew)
          have HSd := Lib.hid HS2.out.drew
          go_wp2
          go_roundw
          case rel => exact ⟨k + 1, by omega, by go_num, HXd.out, HSd.out⟩
          case measure => simp [intOf]; omega)
    · obtain rfl : k = s.loose.length := by omega
      have hki : ¬ ((s.loose.length : Nat) : Int) < (s.loose.length : Int) := by omega
      have ho := HR.out.obj
      have f1 := RO.fr ho 1
      have f6 := RO.fr ho 6
      have f4 := RO.fr ho 4
      have d4 := RO.c4 ho
      have d6 := RO.c6 ho
      have X : RefAt r base (s.goes keep) zs (.slice (some ⟨q, 0, none⟩) s.stay.length c) (.slice none 0 0) v2 kp (((wr.setCell ⟨r, 1, none⟩ (.slice none 0 0)).setCell ⟨r, 6, none⟩ (.bool true)).setCell ⟨r, 4, none⟩ (.int .i64 0)) := by
        refine ⟨?_, ?_, World.ownsRow_nil _ _ _ _, ?_, HR.out.bads, HR.out.few, by simp [DS.goes], HR.out.kple, HR.out.low⟩
        · rw [heap_set (heap_set (heap_set ho _) _)]
          simp [RO, DS.goes, DS.upTo]
        · have e1 : (s.goes keep).stay = (s.upTo (keepsAt keep) s.loose.length).stay := (upTo_all s (keepsAt keep)).symm
          rw [e1]
          have h1 := owns_other (i := 1) HR.out.st ho (by decide) (.slice none 0 0)
          have h2 := owns_other (i := 6) h1 (heap_set ho _) (by decide) (.bool true)
          exact owns_other (i := 4) h2 (heap_set (heap_set ho _) _) (by decide) (.int .i64 0)
        · have h1 := owns_other (i := 1) HR.out.ba ho (by decide) (.slice none 0 0)
          have h2 := owns_other (i := 6) h1 (heap_set ho _) (by decide) (.bool true)
          exact owns_other (i := 4) h2 (heap_set (heap_set ho _) _) (by decide) (.int .i64 0)
      have S : Stir (RF r (.slice (some ⟨q, 0, none⟩) s.stay.length c)) w (((wr.setCell ⟨r, 1, none⟩ (.slice none 0 0)).setCell ⟨r, 6, none⟩ (.bool true)).setCell ⟨r, 4, none⟩ (.int .i64 0)) :=
        ((HS.out.set (.inl (.inl rfl)) _).set (.inl (.inl rfl)) _).set (.inl (.inl rfl)) _
      have HX := Lib.hid X
      have HSX := Lib.hid S
      clear X S ho C
      go_wp2
      go_end0
      exact ⟨rfl, ⟨_, _, HX.out⟩, HSX.out⟩
end
end Go.Proofs.YtmloljjllmmkoaaGreat

namespace Go.Proofs.YtmloljjllmmkoaaGreat
open Go.RowKit Go Go.Maps SM

/-- the reference's disk, whatever its rows are -/
def RefAny (r base : Nat) (s : DS) (w : World) : Prop := ∃ zs v0 v1 v2 kp, RefAt r base s zs v0 v1 v2 kp w
section
variable {r base : Nat} {s : DS} {zs : List Int} {v0 v1 v2 : Value} {kp : ByteArray} {w w' : World}
theorem RefAny.below (h : RefAny r base s w) (hB : Below w.heap.size w w') : RefAny r base s w' := by
  obtain ⟨zs, v0, v1, v2, kp, h⟩ := h
  exact ⟨zs, v0, v1, v2, kp, h.below hB⟩
theorem RefAny.disk {b g m : Nat} {t : DS} (h : RefAny r base s w) (hd : DiskAt b g m t w) (k : Stir (Foot b g m) w w') : RefAny r base s w' := by
  obtain ⟨zs, v0, v1, v2, kp, h⟩ := h
  exact ⟨zs, v0, v1, v2, kp, h.disk hd k⟩

set_option maxRecDepth 100000 in
set_option maxHeartbeats 2000000 in
theorem rsync_at (h : RefAt r base s zs v0 v1 v2 kp w) (hk : s.Ok) (hm : s.made < 1099511627776) :
    Calls Tryz.prog 90 #[.pointer (some ⟨r, 0, none⟩)] w fun e w' => e = .returned (.int .i64 s.syncE) ∧ (∃ v1' kp', RefAt r base s.sync zs v0 v1' v2 kp' w') ∧ Stir (RF r v0) w w' := by
  have c6 := RO.c6 h.obj
  have H0 := Lib.hid h
  have hfew := hk.few
  have HK := Lib.hid hk
  unfold DS.syncE DS.sync
  cases hd : s.dead with
  | true =>
    rw [hd] at c6
    simp only [if_true]
    clear h hd hk
    go_enter Tryz.func90, Tryz.ntmps90
    go_wp2
    go_ret
    exact ⟨rfl, ⟨_, _, H0.out⟩, Stir.refl _ _⟩
  | false =>
    rw [hd] at c6
    have C1 := rstep_at h hk.arm hm
    simp only [Bool.false_eq_true, if_false]
    by_cases ha : s.armed = 1
    · rw [show (s.armed == 1) = true from beq_iff_eq.2 ha] at C1
      simp only [ha, if_true]
      have hkp := h.keep (by omega)
      subst hkp
      clear h hd hk
      go_enter Tryz.func90, Tryz.ntmps90
      go_wp2_with fail
      refine C1.mono ?_
      rintro e w1 ⟨rfl, h1, s1⟩
      have c5 : w1.cell? ⟨r, 5, none⟩ = some (.string s.keep) := by have := RO.c5 h1.obj; exact this
      have C2 := rgoes_at h1 HK.out.tick (by show s.loose.length ≤ _; omega) (keep := s.keep) HK.out.keep
      have S1 := Lib.hid s1
      clear h1 s1 C1
      go_wp2_with fail
      refine C2.mono ?_
      rintro e w2 ⟨rfl, ⟨v1', kp', h2⟩, s2⟩
      have S2 := Lib.hid (S1.out.trans s2 (fun i hi => .inl hi))
      have H2 := Lib.hid h2
      clear h2 s2
      go_wp2
      go_ret
      exact ⟨rfl, ⟨_, _, H2.out⟩, S2.out⟩
    · rw [show (s.armed == 1) = false from beq_eq_false_iff_ne.2 ha] at C1
      simp only [ha, if_false]
      obtain ⟨a1, k1, rfl⟩ := row_shape h.lo
      obtain ⟨q, c, rfl, _, _⟩ := h.v0_is hk.pos
      clear h hd hk ha
      go_enter Tryz.func90, Tryz.ntmps90
      go_wp2_with fail
      refine C1.mono ?_
      rintro e w1 ⟨rfl, h1, s1⟩
      have H1 := Lib.hid h1
      have S1 := Lib.hid s1
      have HT := Lib.hid HK.out.tick
      have hTl : s.tick.loose = s.loose := rfl
      have hTs : s.tick.stay = s.stay := rfl
      clear h1 s1 C1 c6 H0
      go_wp2_with fail
      go_loopw [3] (fun i wr => ∃ k : Nat, k ≤ s.loose.length ∧ i = .int .i64 k ∧ RefAt r base (s.tick.upTo allP k) zs (.slice (some ⟨q, 0, none⟩) s.stay.length c) (.slice a1 s.loose.length k1) v2 kp wr ∧ Stir (RF r (.slice (some ⟨q, 0, none⟩) s.stay.length c)) w wr) (fun i _ => s.loose.length - (intOf i).toNat)
      case atStart => exact ⟨0, Nat.zero_le _, rfl, by rw [upTo_zero]; exact H1.out, S1.out⟩
      case round =>
        obtain ⟨k, hkl, rfl, hr, hs⟩ := hrel
        have c1 := RO.c1 hr.obj
        have HR := Lib.hid hr
        have HS := Lib.hid hs
        clear hr hs H1 S1
        by_cases hlt : k < s.loose.length
        · have hki : (k : Int) < (s.loose.length : Int) := by omega
          obtain ⟨q1, c1', e1, hN, hS⟩ := HR.out.v1_cells (i := k) hlt
          simp only [Value.slice.injEq] at e1
          obtain ⟨rfl, -, hc1'⟩ := e1
          subst hc1'
          have hcN : wr.cell? ⟨q1, k * 2, none⟩ = some (.int .i64 s.loose[k].1) := hN
          have hcS : wr.cell? ⟨q1, k * 2 + 1, none⟩ = some (.string s.loose[k].2) := hS
          obtain ⟨k1', k2', k3'⟩ := HK.out.key _ (List.getElem_mem hlt)
          have hput := upTo_put HT.out allP (k := k) hlt rfl
          have hput : (s.tick.upTo allP (k + 1)).stay = (s.tick.upTo allP k).stay.set s.loose[k].1.toNat s.loose[k].2 := hput
          obtain ⟨j, hj⟩ := Int.eq_ofNat_of_zero_le k1'
          rw [hj] at hcN k2'
          rw [hj, Int.toNat_natCast] at hput
          have hjn : j < s.stay.length := by omega
          have c0 := RO.c0 HR.out.obj
          have hlen : (s.tick.upTo allP k).stay.length = s.stay.length := upTo_len s.tick allP k
          have hst := HR.out.st
          rw [hlen] at hst
          have cQ : wr.cell? ⟨q, j, none⟩ = some (.string ((s.tick.upTo allP k).stay.getD j none0)) := by
            rw [hst.cellAt j (by omega)]
            simp [strVals, hlen, hjn]
          have fQ : wr.frozen? ⟨q, j, none⟩ = false := hst.frozenAt j
          have hX : RefAt r base (s.tick.upTo allP (k + 1)) zs (.slice (some ⟨q, 0, none⟩) s.stay.length c) (.slice (some ⟨q1, 0, none⟩) s.loose.length k1) v2 kp (wr.setCell ⟨q, j, none⟩ (.string s.loose[k].2)) := by
            have h0 := HR.out
            rw [← hlen] at h0 ⊢
            exact h0.laid hput rfl rfl rfl rfl rfl rfl
          have hS2 : Stir (RF r (.slice (some ⟨q, 0, none⟩) s.stay.length c)) w (wr.setCell ⟨q, j, none⟩ (.string s.loose[k].2)) := HS.out.set (.inl (.inr rfl)) _
          have HX := Lib.hid hX
          have HS2 := Lib.hid hS2
          generalize s.loose[k].2 = x at hcS HX HS2
          have hji : (j : Int) < (s.stay.length : Int) := by omega
          clear hN hS k1' k2' k3' hput hj hX hS2 hlen hst hTl hTs
          go_wp2_with fail
          go_region
          all_goals (
            have HXd := Lib.hid (HX.out.below (Below.refl _ _).drew)
            have HSd := Lib.hid HS2.out.drew
            go_wp2
            go_roundw
            case rel => exact ⟨k + 1, by omega, by go_num, HXd.out, HSd.out⟩
            case measure => simp [intOf]; omega)
        · obtain rfl : k = s.loose.length := by omega
          have hki : ¬ ((s.loose.length : Nat) : Int) < (s.loose.length : Int) := by omega
          have ho := HR.out.obj
          have f1 := RO.fr ho 1
          have X : RefAt r base s.tick.settled zs (.slice (some ⟨q, 0, none⟩) s.stay.length c) (.slice none 0 0) v2 kp (wr.setCell ⟨r, 1, none⟩ (.slice none 0 0)) := by
            refine ⟨?_, ?_, World.ownsRow_nil _ _ _ _, owns_other (i := 1) HR.out.ba ho (by decide) _, HR.out.bads, HR.out.few, HR.out.keep, HR.out.kple, HR.out.low⟩
            · rw [heap_set ho]
              simp [RO, DS.settled, DS.upTo, DS.tick]
            · have e1 : s.tick.settled.stay = (s.tick.upTo allP s.loose.length).stay := (upTo_all s.tick allP).symm
              rw [e1]
              exact owns_other (i := 1) HR.out.st ho (by decide) _
          have HX := Lib.hid X
          have HSX := Lib.hid (HS.out.set (b := r) (i := 1) (.inl (.inl rfl)) (.slice none 0 0))
          clear X ho hTl hTs
          go_wp2
          go_ret
          exact ⟨rfl, ⟨_, _, HX.out⟩, HSX.out⟩

set_option maxRecDepth 100000 in
set_option maxHeartbeats 2000000 in
theorem rread_at (h : RefAt r base s zs v0 v1 v2 kp w) (hk : s.Ok) (hm : s.made < 1099511627776) (n : Int) (hn : I64 n) :
    Calls Tryz.prog 124 #[.pointer (some ⟨r, 0, none⟩), .int .i64 n] w fun e w' => e = .returned (.tuple #[.string (s.readS n), .int .i64 (s.readE n)]) ∧ w = w' := by
  have C1 := rmay_at h hk n hn
  have C2 := risBad_at h n
  have hmay : s.may n = 0 → 0 ≤ n ∧ n < s.stay.length := fun e => (DS.may_ok e).2
  have hfew := hk.few
  unfold DS.readS DS.readE
  by_cases hm0 : s.may n = 0
  · rw [hm0] at C1
    obtain ⟨h0, h1⟩ := hmay hm0
    cases hb : s.bad n with
    | true =>
      rw [hb] at C2
      simp only [hm0, ne_eq, not_true, if_false, if_true]
      clear h hm0 hmay
      go_enter Tryz.func124, Tryz.ntmps124
      go_wp2_with fail
      refine C1.mono ?_
      rintro e w' ⟨rfl, rfl⟩
      go_wp2_with fail
      refine C2.mono ?_
      rintro e w' ⟨rfl, rfl⟩
      go_wp2
      go_ret2
      exact ⟨rfl, rfl⟩
    | false =>
      rw [hb] at C2
      simp only [hm0, ne_eq, not_true, if_false, Bool.false_eq_true, if_true]
      obtain ⟨k, rfl⟩ := Int.eq_ofNat_of_zero_le h0
      have hkn : k < s.stay.length := by omega
      have HC := Lib.hid (fun i (hi : i < s.loose.length) => h.v1_cells hi)
      obtain ⟨a1, k1, rfl⟩ := row_shape h.lo
      obtain ⟨q, c, rfl, _, hc⟩ := h.v0_is hk.pos
      have c0 := RO.c0 h.obj
      have c1 := RO.c1 h.obj
      have hcell := hc k hkn
      have hll : s.loose.length ≤ 1099511627776 := by omega
      have HNO := Lib.hid (fun (hno : ∀ j (hj : j < s.loose.length), s.loose[j].1 ≠ (k : Int)) => show s.look (k : Int) = s.stay.getD k none0 by
        unfold DS.look
        rw [seek_none (fun q hq => by obtain ⟨j, hj, rfl⟩ := List.mem_iff_getElem.1 hq; exact hno j hj)]
        simp)
      have HYE := Lib.hid (fun (j : Nat) (hj : j < s.loose.length) (e : s.loose[j].1 = (k : Int)) => show s.look (k : Int) = s.loose[j].2 by
        unfold DS.look
        rw [seek_get (p := 0) hk.nd hj (k := (k : Int)) (x := s.loose[j].2) (by rw [← e])])
      have hkni : (k : Int) < (s.stay.length : Int) := by omega
      clear h hm0 hmay hc h0 h1 hk
      generalize s.look (k : Int) = x at *
      go_enter Tryz.func124, Tryz.ntmps124
      go_wp2_with fail
      refine C1.mono ?_
      rintro e w' ⟨rfl, rfl⟩
      go_wp2_with fail
      refine C2.mono ?_
      rintro e w' ⟨rfl, rfl⟩
      go_wp2_with fail
      go_loop [7] (fun i => ∃ j : Nat, j ≤ s.loose.length ∧ i = .int .i64 j ∧ ∀ i (_ : i < j) (hi : i < s.loose.length), s.loose[i].1 ≠ (k : Int)) (fun i => s.loose.length - (intOf i).toNat)
      case atStart => exact ⟨0, Nat.zero_le _, rfl, fun i hi _ => by omega⟩
      case round =>
        obtain ⟨j, hj, rfl, hno⟩ := hrel
        have HN := Lib.hid hno
        clear hno
        by_cases hlt : j < s.loose.length
        · obtain ⟨q1, c1', e1, hN, hS⟩ := HC.out j hlt
          simp only [Value.slice.injEq] at e1
          obtain ⟨rfl, -, hc1'⟩ := e1
          subst hc1'
          have hji : (j : Int) < (s.loose.length : Int) := by omega
          have HNX := Lib.hid (fun (hz : s.loose[j].1 ≠ (k : Int)) i (hi : i < j + 1) (hl : i < s.loose.length) => show s.loose[i].1 ≠ (k : Int) by
            by_cases e : i = j
            · subst e; exact hz
            · exact HN.out i (by omega) hl)
          have HYJ := Lib.hid (HYE.out j hlt)
          generalize s.loose[j].1 = z at hN HNX HYJ
          generalize s.loose[j].2 = y at hS HYJ
          by_cases hz : z = (k : Int)
          · have HXY := Lib.hid (HYJ.out hz)
            subst hz
            clear HYJ HNX
            go_wp2
            go_ret2
            exact ⟨by rw [HXY.out]; rfl, rfl⟩
          · have hzb : (z == (k : Int)) = false := beq_eq_false_iff_ne.2 hz
            go_wp2
            go_round
            case rel => exact ⟨j + 1, by omega, by go_num, HNX.out hz⟩
            case measure => simp [intOf]; omega
        · have hji : ¬ (j : Int) < (s.loose.length : Int) := by omega
          have hx := HNO.out (fun i hi => HN.out i (by omega) hi)
          rw [← hx] at hcell
          have HX := Lib.hid hx
          clear hx
          go_wp2
          go_ret2
          exact ⟨rfl, rfl⟩
  · simp only [hm0, ne_eq, not_false_eq_true, if_true, if_false]
    have hne : (s.may n == 0) = false := beq_eq_false_iff_ne.2 hm0
    generalize s.may n = E at C1 hm0 hne ⊢
    clear h hmay C2 hm0
    go_enter Tryz.func124, Tryz.ntmps124
    go_wp2_with fail
    refine C1.mono ?_
    rintro e w' ⟨rfl, rfl⟩
    go_wp2
    go_ret2
    exact ⟨rfl, rfl⟩
end
end Go.Proofs.YtmloljjllmmkoaaGreat

namespace Go.Proofs.YtmloljjllmmkoaaGreat
open Go.RowKit Go Go.Maps SM

theorem infoInt : (Tryz.prog.info? 3).map (fun i => (i.zero, i.size, i.bytes)) = some (some (.int .i64 0), 1, 8) := by kernel_rfl
def filt (zs : List Int) (n : Int) (k : Nat) : List Int := (zs.take k).filter fun z => decide (z ≠ n)
theorem filt_skip {zs : List Int} {n : Int} {k : Nat} (h : k < zs.length) (e : zs[k] = n) : filt zs n (k + 1) = filt zs n k := by
  simp [filt, List.take_succ_eq_append_getElem h, e]
theorem filt_take {zs : List Int} {n : Int} {k : Nat} (h : k < zs.length) (e : zs[k] ≠ n) : filt zs n (k + 1) = filt zs n k ++ [zs[k]] := by
  have e2 : ([zs[k]].filter fun z => decide (z ≠ n)) = [zs[k]] := by rw [List.filter_cons, if_pos (decide_eq_true e), List.filter_nil]
  unfold filt
  rw [List.take_succ_eq_append_getElem h, List.filter_append, e2]
theorem filt_le (zs : List Int) (n : Int) (k : Nat) : (filt zs n k).length ≤ zs.length :=
  Nat.le_trans (List.length_filter_le _ _) (by rw [List.length_take]; omega)
theorem filt_mem (zs : List Int) (n j : Int) : j ∈ filt zs n zs.length ↔ j ∈ zs ∧ j ≠ n := by simp [filt]
theorem intVals_snoc (l : List Int) (z : Int) : intVals l ++ [.int .i64 z] = intVals (l ++ [z]) := by simp [intVals]

section
variable {r base : Nat} {s : DS} {zs : List Int} {v0 v1 v2 : Value} {kp : ByteArray} {w w' : World}
/-- the list of bad ones is another one -/
theorem RefAt.newBad (h : RefAt r base s zs v0 v1 v2 kp w) (hB : Below w.heap.size w w') {zs' : List Int} {v' : Value} (hr : w'.ownsRow w.heap.size 3 1 v' zs'.length (intVals zs')) (hf : zs'.length ≤ 1099511627776) {s' : DS} (hb : ∀ k, decide (k ∈ zs') = s'.bad k)
    (h1 : s'.stay = s.stay) (h2 : s'.loose = s.loose) (h3 : s'.made = s.made) (h4 : s'.armed = s.armed) (h5 : s'.keep = s.keep) (h6 : s'.dead = s.dead) :
    RefAt r base s' zs' v0 v1 v' kp (w'.setCell ⟨r, 2, none⟩ v') := by
  have h' := h.below hB
  have hlt := lt_of_heap h.obj
  refine ⟨by rw [heap_set h'.obj, h3, h4, h6]; simp [RO], by rw [h1]; exact owns_other h'.st h'.obj (by decide) _, by rw [h2]; exact owns_other h'.lo h'.obj (by decide) _, owns_other (hr.mono (by have := h.low; omega)) h'.obj (by decide) _, hb, hf, by rw [h4, h5]; exact h.keep, h.kple, h.low⟩

end
end Go.Proofs.YtmloljjllmmkoaaGreat

namespace Go.Proofs.YtmloljjllmmkoaaGreat
open Go.RowKit Go Go.Maps SM

theorem infoLoose : (Tryz.prog.info? 111).map (fun i => (i.zero, i.size, i.bytes)) = some (some (.agg #[.int .i64 0, .string ⟨#[]⟩]), 2, 24) := by kernel_rfl
/-- each such sector turned -/
def turnQ (n : Int) (x : ByteArray) (q : Int × ByteArray) : Int × ByteArray := if q.1 = n then (q.1, x) else q
def mixed (l : List (Int × ByteArray)) (n : Int) (x : ByteArray) (k : Nat) : List (Int × ByteArray) := (l.take k).map (turnQ n x) ++ l.drop k
def seen (l : List (Int × ByteArray)) (n : Int) (k : Nat) : Bool := (l.take k).any fun q => q.1 == n
section
variable {l : List (Int × ByteArray)} {n : Int} {x : ByteArray} {k : Nat}
theorem mixed_zero : mixed l n x 0 = l := by simp [mixed]
theorem mixed_len : (mixed l n x k).length = l.length := by simp [mixed]; omega
theorem mixed_at (h : k < l.length) : (mixed l n x k)[k]'(by rw [mixed_len]; exact h) = l[k] := by
  unfold mixed
  rw [List.getElem_append_right (by simp; omega)]
  simp only [List.getElem_drop, List.length_map, List.length_take]
  congr 1
  omega
theorem mixed_succ (h : k < l.length) : mixed l n x (k + 1) = (mixed l n x k).set k (turnQ n x l[k]) := by
  unfold mixed
  rw [List.take_succ_eq_append_getElem h, List.map_append, List.set_append_right _ _ (by simp; omega), List.length_map, List.length_take, show k - min k l.length = 0 by omega, List.drop_eq_getElem_cons h, List.set_cons_zero, List.append_assoc]
  rfl
theorem mixed_all : mixed l n x l.length = l.map (turnQ n x) := by simp [mixed]
theorem seen_zero : seen l n 0 = false := by simp [seen]
theorem seen_succ (h : k < l.length) : seen l n (k + 1) = (seen l n k || (l[k].1 == n)) := by
  unfold seen
  rw [List.take_succ_eq_append_getElem h, List.any_append]
  simp
theorem seen_all : seen l n l.length = l.any fun q => q.1 == n := by simp [seen]
theorem turnQ_no {q : Int × ByteArray} (h : q.1 ≠ n) : turnQ n x q = q := by simp [turnQ, h]
theorem looseCells_set : ∀ (l : List (Int × ByteArray)) (k : Nat) (h : k < l.length) (y : ByteArray), looseCells (l.set k (l[k].1, y)) = (looseCells l).set (k * 2 + 1) (.string y)
  | [], _, h, _ => by simp at h
  | q :: r, 0, _, y => by simp [looseCells]
  | q :: r, k + 1, h, y => by
    have ih := looseCells_set r k (by simpa using h) y
    have e : ∀ (p : Int × ByteArray) (t : List (Int × ByteArray)), looseCells (p :: t) = [.int .i64 p.1, .string p.2] ++ looseCells t := fun _ _ => rfl
    rw [List.set_cons_succ, e, e, List.getElem_cons_succ, ih, show (k + 1) * 2 + 1 = (k * 2 + 1) + 2 by omega, List.set_append_right _ _ (by simp)]
    rfl
end

theorem two_new (w : World) (a b : Value) (t : TypeId) : ∀ (j : Nat) (u : Value), [a, b][j]? = some u → (w.alloc (.cells #[a, b] t)).cell? ((⟨w.heap.size, 0, none⟩ : Addr).add j) = some u := by
  intro j u hu
  have hh := heap_alloc_new w (.cells #[a, b] t)
  have hj : j = 0 ∨ j = 1 := by
    have := (List.getElem?_eq_some_iff.1 hu).1
    simp at this
    omega
  rw [Addr.add_lit]
  rcases hj with rfl | rfl
  · simp only [World.cell?, hh]
    simpa using hu
  · simp only [World.cell?, hh]
    simpa using hu
section
variable {r base : Nat} {s : DS} {zs : List Int} {v0 v1 v2 : Value} {kp : ByteArray} {w w' : World}
/-- the list of loose ones is another one -/
theorem RefAt.newLoose (h : RefAt r base s zs v0 v1 v2 kp w) (hB : Below w.heap.size w w') {l' : List (Int × ByteArray)} {v' : Value} (hr : w'.ownsRow w.heap.size 111 2 v' l'.length (looseCells l')) :
    RefAt r base { s with loose := l' } zs v0 v' v2 kp (w'.setCell ⟨r, 1, none⟩ v') := by
  have h' := h.below hB
  have hlt := lt_of_heap h.obj
  exact ⟨by rw [heap_set h'.obj]; simp [RO], owns_other h'.st h'.obj (by decide) _, owns_other (hr.mono (by have := h.low; omega)) h'.obj (by decide) _, owns_other h'.ba h'.obj (by decide) _, h.bads, h.few, h.keep, h.kple, h.low⟩

set_option maxRecDepth 100000 in
set_option maxHeartbeats 4000000 in
theorem rwrite_at (h : RefAt r base s zs v0 v1 v2 kp w) (hk : s.Ok) (hm : s.made < 1099511627776) (n : Int) (hn : I64 n) (x : ByteArray) :
    Calls Tryz.prog 27 #[.pointer (some ⟨r, 0, none⟩), .int .i64 n, .string x] w fun e w' => e = .returned (.int .i64 (s.writeE n x)) ∧ (∃ v1' kp', RefAt r base (s.write n x) zs v0 v1' v2 kp' w') ∧ Stir (RF r v0) w w' := by
  have C1 := rmay_at h hk n hn
  have C2 := risBad_at h n
  have H0 := Lib.hid h
  by_cases hmay : s.may n = 0
  · rw [hmay] at C1
    by_cases h64 : x.size = 64
    · have h64b : ((x.size : Int) == 64) = true := by rw [h64]; rfl
      cases hb : s.bad n with
      | true =>
        rw [hb] at C2
        rw [show s.writeE n x = 3 by simp [DS.writeE, hmay, h64, hb], show s.write n x = s by simp [DS.write, DS.fits, hb]]
        clear h hmay h64
        go_enter Tryz.func27, Tryz.ntmps27
        go_wp2_with fail
        refine C1.mono ?_
        rintro e w' ⟨rfl, rfl⟩
        go_wp2_with fail
        refine C2.mono ?_
        rintro e w' ⟨rfl, rfl⟩
        go_wp2
        go_ret
        exact ⟨rfl, ⟨_, _, H0.out⟩, Stir.refl _ _⟩
      | false =>
        rw [hb] at C2
        have hfit : s.fits n x = true := by simp [DS.fits, hmay, h64, hb]
        have hE : s.writeE n x = if s.armed = 1 then 2 else 0 := by simp [DS.writeE, hmay, h64, hb]
        have hW : s.write n x = if s.armed = 1 then (s.lays n x).goes s.keep else s.lays n x := by simp [DS.write, hfit]
        obtain ⟨h0, h1⟩ := (DS.may_ok hmay).2
        have hlo : (s.lays n x).Ok := hk.lays h0 h1 h64
        obtain ⟨i0, hi, hz0, hz1, hz2⟩ := info_parts infoLoose
        have hfew := hk.few
        rw [hE, hW]
        obtain ⟨N, hN⟩ : ∃ N, s.loose.length = N := ⟨_, rfl⟩
        obtain ⟨EE, hEE⟩ : ∃ EE : Int, (if s.armed = 1 then (2 : Int) else 0) = EE := ⟨_, rfl⟩
        obtain ⟨TT, hTT⟩ : ∃ TT : DS, (if s.armed = 1 then (s.lays n x).goes s.keep else s.lays n x) = TT := ⟨_, rfl⟩
        rw [hEE, hTT]
        have HEE := Lib.hid hEE
        have HTT := Lib.hid hTT
        clear hEE hTT
        have hPN : putL n x s.loose = s.loose.map (turnQ n x) ++ (if s.loose.any (fun q => q.1 == n) then [] else [(n, x)]) := putL_map n x hk.nd
        have HPN := Lib.hid hPN
        have HK := Lib.hid hk
        have HL := Lib.hid hlo
        obtain ⟨w0, hw0⟩ : ∃ w0, w.alloc (.cells #[] 111) = w0 := ⟨_, rfl⟩
        have hB0 : Below w.heap.size w w0 := by rw [← hw0]; exact (Below.refl _ w).alloc (Nat.le_refl _) _
        have HB0 := Lib.hid hB0
        have c1a := RO.c1 (keeps_of hB0 h.obj)
        have HR0 := Lib.hid (show w0.ownsRow w.heap.size 111 2 (.slice (some ⟨w.heap.size, 0, none⟩) 0 0) 0 [] by rw [← hw0]; exact World.ownsRow_made (base := w.heap.size) (e := 111) (size := 2) w #[] 0 (Nat.le_refl _) (Nat.zero_le _) rfl)
        have hNle : N ≤ 1099511627776 := by omega
        have HNL := Lib.hid hNle
        have hlow := h.lo
        rcases h.lo.2 with ⟨rfl, hN0⟩ | ⟨gl, cl0, curl, rfl, _, hgl, _⟩
        · have hl0 : s.loose = [] := List.eq_nil_of_length_eq_zero hN0
          have hN1 : N = 0 := by omega
          have HR1 := Lib.hid (show w0.ownsRow w.heap.size 111 2 (.slice (some ⟨w.heap.size, 0, none⟩) N 0) N (looseCells s.loose) by rw [hN1, hl0]; exact HR0.out)
          have HB1 := HB0
          obtain ⟨ql, hql⟩ : ∃ ql, ql = w.heap.size := ⟨_, rfl⟩
          obtain ⟨cl, hcl⟩ : ∃ cl, cl = 0 := ⟨_, rfl⟩
          have HR1 := Lib.hid (show w0.ownsRow w.heap.size 111 2 (.slice (some ⟨ql, 0, none⟩) N cl) N (looseCells s.loose) by rw [hql, hcl]; exact HR1.out)
          have HV := Lib.hid (show Value.slice (some ⟨w.heap.size, 0, none⟩) 0 0 = .slice (some ⟨ql, 0, none⟩) N cl by rw [hql, hcl, hN1])
          clear h hmay hE hW h0 h1 h64 hfit hlo hPN hB0 hk hlow hl0 hN1 hN0 hql hcl hNle
          go_enter Tryz.func27, Tryz.ntmps27
          go_wp2_with fail
          refine C1.mono ?_
          rintro e w' ⟨rfl, rfl⟩
          go_wp2_with fail
          refine C2.mono ?_
          rintro e w' ⟨rfl, rfl⟩
          clear C1 C2
          go_wp2_with (at_builtin; refine wpList_append_own_none rfl _ _ 106 rfl w.heap.size 111 i0 2 Tryz.underlying106 hi _ 0 _ rfl HR0.out rfl ?_; rw [HV.out])
          clear hw0 c1a HR0
          have hNle := HNL.out
          go_loopw [9, 10] (fun v i wr => ∃ k : Nat, k ≤ N ∧ i = .int .i64 k ∧ v = .bool (seen s.loose n k) ∧ wr.ownsRow w.heap.size 111 2 (.slice (some ⟨ql, 0, none⟩) N cl) N (looseCells (mixed s.loose n x k)) ∧ Below w.heap.size w wr) (fun _ i _ => N - (intOf i).toNat)
          case atStart => exact ⟨0, Nat.zero_le _, rfl, by rw [seen_zero], by rw [mixed_zero]; exact HR1.out, HB1.out⟩
          case round =>
            obtain ⟨k, hkl, rfl, rfl, hrow, hB⟩ := hrel
            have HR := Lib.hid hrow
            have HB := Lib.hid hB
            clear hrow hB HR1 HB1
            by_cases hlt : k < N
            · have hki : (k : Int) < (N : Int) := by omega
              have hlt' : k < s.loose.length := by rw [hN]; exact hlt
              have hml : k < (mixed s.loose n x k).length := by rw [mixed_len]; exact hlt'
              obtain ⟨m1, m2⟩ := looseCells_at (mixed s.loose n x k) k hml
              rw [mixed_at hlt'] at m1 m2
              have d1 : wr.cell? ⟨ql, k * 2, none⟩ = some (.int .i64 s.loose[k].1) := by rw [HR.out.cellAt _ (by omega)]; exact m1
              have d2 : wr.cell? ⟨ql, k * 2 + 1, none⟩ = some (.string s.loose[k].2) := by rw [HR.out.cellAt _ (by omega)]; exact m2
              have f2 : wr.frozen? ⟨ql, k * 2 + 1, none⟩ = false := HR.out.frozenAt _
              have hsn := seen_succ (n := n) hlt'
              have hms := mixed_succ (n := n) (x := x) hlt'
              have HSN := Lib.hid hsn
              by_cases hz : s.loose[k].1 = n
              · have hq : turnQ n x s.loose[k] = (s.loose[k].1, x) := by simp [turnQ, hz]
                rw [hq] at hms
                have hsc := looseCells_set (mixed s.loose n x k) k hml x
                rw [mixed_at hlt', ← hms] at hsc
                have hrow3 := (HR.out.stored (k * 2 + 1) (.string x)).1
                rw [← hsc] at hrow3
                have HR3 := Lib.hid hrow3
                have HB3 := Lib.hid (HB.out.setCell (p := ⟨ql, k * 2 + 1, none⟩) (HR.out.lt ql rfl).1 (.string x))
                have hs1 : seen s.loose n (k + 1) = true := by rw [hsn]; simp [hz]
                have HS1 := Lib.hid hs1
                have hzn : s.loose[k].1 = n := hz
                rw [hzn] at d1
                generalize s.loose[k].2 = y at d2
                clear m1 m2 hsn hms hq hsc hrow3 hs1 hz hzn hml HSN hlt'
                go_wp2_with fail
                go_roundw
                case rel => exact ⟨k + 1, by omega, by go_num, by rw [HS1.out], HR3.out, HB3.out⟩
                case measure => simp [intOf]; omega
              · rw [turnQ_no hz] at hms
                have hms2 : mixed s.loose n x (k + 1) = mixed s.loose n x k := by
                  rw [hms]
                  have e := mixed_at (n := n) (x := x) hlt'
                  conv => lhs; rw [← e]
                  exact List.set_getElem_self _
                have hs1 : seen s.loose n (k + 1) = seen s.loose n k := by rw [hsn]; simp [hz]
                have HS1 := Lib.hid hs1
                have HM2 := Lib.hid hms2
                have hzb : (s.loose[k].1 == n) = false := beq_eq_false_iff_ne.2 hz
                clear m1 m2 hsn hms hms2 hs1 hml HSN
                generalize s.loose[k].1 = z at d1 hz hzb
                generalize s.loose[k].2 = y at d2
                clear hlt'
                go_wp2_with fail
                go_roundw
                case rel => exact ⟨k + 1, by omega, by go_num, by rw [HS1.out], by rw [HM2.out]; exact HR.out, HB.out⟩
                case measure => simp [intOf]; omega
            · obtain rfl : N = k := by omega
              have hki : ¬ ((N : Nat) : Int) < (N : Int) := by omega
              have hrow := HR.out
              rw [← hN, mixed_all, hN] at hrow
              have hsl : seen s.loose n N = s.loose.any fun q => q.1 == n := by rw [← hN, seen_all]
              rw [hsl]
              have hO := (H0.out.below HB.out).obj
              have HR4 := Lib.hid hrow
              clear hrow hsl HR hlt hkl
              have hpn := HPN.out
              cases hany : s.loose.any (fun q => q.1 == n) with
              | true =>
                rw [hany, if_pos rfl, List.append_nil] at hpn
                have f1 := RO.fr hO 1
                have c13 := RO.c1 hO
                have X := H0.out.newLoose HB.out (l' := putL n x s.loose) (v' := .slice (some ⟨ql, 0, none⟩) N cl) (by rw [hpn, List.length_map, hN]; exact HR4.out)
                have HX := Lib.hid X
                have HS := Lib.hid ((Stir.of_below (F := RF r v0) HB.out).set (b := r) (i := 1) (.inl (.inl rfl)) (.slice (some ⟨ql, 0, none⟩) N cl))
                clear X hO hpn HPN hN
                have L := rstep_at HX.out HK.out.arm hm
                have KP := Lib.hid (show s.armed = 1 → kp = s.keep from fun e => H0.out.keep (by omega))
                by_cases ha : s.armed = 1
                · rw [show (({ s with loose := putL n x s.loose } : DS).armed == 1) = true from beq_iff_eq.2 ha] at L
                  obtain rfl := KP.out ha
                  go_wp2_with fail
                  refine L.mono ?_
                  rintro e w4 ⟨rfl, h4, s4⟩
                  have c5 : w4.cell? ⟨r, 5, none⟩ = some (.string s.keep) := RO.c5 h4.obj
                  have S4 := Lib.hid (HS.out.trans s4 (fun i e => .inl e))
                  have F := rgoes_at h4 HL.out (by have := HL.out.few; simp [DS.lays, DS.tick] at this ⊢; omega) (keep := s.keep) HK.out.keep
                  clear h4 s4 L
                  go_wp2_with fail
                  refine F.mono ?_
                  rintro e w5 ⟨rfl, ⟨v1', kp', h5⟩, s5⟩
                  have H5 := Lib.hid h5
                  have S5 := Lib.hid (S4.out.trans s5 (fun i e => .inl e))
                  clear h5 s5 F
                  go_wp2
                  go_ret
                  exact ⟨by rw [← HEE.out, if_pos ha]; rfl, ⟨_, _, by rw [← HTT.out, if_pos ha]; exact H5.out⟩, S5.out⟩
                · rw [show (({ s with loose := putL n x s.loose } : DS).armed == 1) = false from beq_eq_false_iff_ne.2 ha] at L
                  go_wp2_with fail
                  refine L.mono ?_
                  rintro e w4 ⟨rfl, h4, s4⟩
                  have H4 := Lib.hid h4
                  have S4 := Lib.hid (HS.out.trans s4 (fun i e => .inl e))
                  clear h4 s4 L
                  go_wp2
                  go_ret
                  exact ⟨by rw [← HEE.out, if_neg ha]; rfl, ⟨_, _, by rw [← HTT.out, if_neg ha]; exact H4.out⟩, S4.out⟩
              | false =>
                rw [hany, if_neg (by simp)] at hpn
                go_wp2_with (at_builtin; refine wpList_append_own _ rfl _ _ 106 rfl w.heap.size 111 i0 (.agg #[.int .i64 0, .string ⟨#[]⟩]) 2 24 Tryz.underlying106 hi hz0 hz1 hz2 rfl (by decide) _ N _ rfl (HR4.out.alloc _) ⟨wr.heap.size, 0, none⟩ 1 1 [.int .i64 n, .string x] rfl rfl (two_new _ _ _ _) (by simp [Value.oneCell']) (by unfold maxLen; omega) (by omega) (by simp; have := HB.out.size; omega) ?_
                             intro v' w3 hrow3 hgrow3 _
                             obtain ⟨a3, c3, rfl⟩ := row_shape hrow3
                             have hB3 := (HB.out.alloc HB.out.size (.cells #[.int .i64 n, .string x] 111)).grown hgrow3 (by have := HB.out.size; simp; omega) (fun j hj => (HR4.out.lt j hj).1)
                             have ho3 := (H0.out.below hB3).obj
                             have f1 := RO.fr ho3 1
                             have c13 := RO.c1 ho3
                             have X := H0.out.newLoose hB3 (l' := putL n x s.loose) (v' := .slice a3 (N + 1) c3) (by rw [hpn, List.length_append, List.length_map, hN, looseCells_append]; exact hrow3)
                             have HX := Lib.hid X
                             have HS := Lib.hid ((Stir.of_below (F := RF r v0) hB3).set (b := r) (i := 1) (.inl (.inl rfl)) (.slice a3 (N + 1) c3))
                             clear hB3 ho3 hrow3 hgrow3 X)
                have L := rstep_at HX.out HK.out.arm hm
                have KP := Lib.hid (show s.armed = 1 → kp = s.keep from fun e => H0.out.keep (by omega))
                by_cases ha : s.armed = 1
                · rw [show (({ s with loose := putL n x s.loose } : DS).armed == 1) = true from beq_iff_eq.2 ha] at L
                  obtain rfl := KP.out ha
                  go_wp2_with fail
                  refine L.mono ?_
                  rintro e w4 ⟨rfl, h4, s4⟩
                  have c5 : w4.cell? ⟨r, 5, none⟩ = some (.string s.keep) := RO.c5 h4.obj
                  have S4 := Lib.hid (HS.out.trans s4 (fun i e => .inl e))
                  have F := rgoes_at h4 HL.out (by have := HL.out.few; simp [DS.lays, DS.tick] at this ⊢; omega) (keep := s.keep) HK.out.keep
                  clear h4 s4 L
                  go_wp2_with fail
                  refine F.mono ?_
                  rintro e w5 ⟨rfl, ⟨v1', kp', h5⟩, s5⟩
                  have H5 := Lib.hid h5
                  have S5 := Lib.hid (S4.out.trans s5 (fun i e => .inl e))
                  clear h5 s5 F
                  go_wp2
                  go_ret
                  exact ⟨by rw [← HEE.out, if_pos ha]; rfl, ⟨_, _, by rw [← HTT.out, if_pos ha]; exact H5.out⟩, S5.out⟩
                · rw [show (({ s with loose := putL n x s.loose } : DS).armed == 1) = false from beq_eq_false_iff_ne.2 ha] at L
                  go_wp2_with fail
                  refine L.mono ?_
                  rintro e w4 ⟨rfl, h4, s4⟩
                  have H4 := Lib.hid h4
                  have S4 := Lib.hid (HS.out.trans s4 (fun i e => .inl e))
                  clear h4 s4 L
                  go_wp2
                  go_ret
                  exact ⟨by rw [← HEE.out, if_neg ha]; rfl, ⟨_, _, by rw [← HTT.out, if_neg ha]; exact H4.out⟩, S4.out⟩
        · have HNW := Lib.hid (show ∀ (j : Nat) (u : Value), (looseCells s.loose)[j]? = some u → w0.cell? ((⟨gl, 0, none⟩ : Addr).add j) = some u from fun j u hu => (owns_below hlow hB0).cells rfl j u hu)
          have HLC := Lib.hid (show (looseCells s.loose).length = N * 2 by rw [looseCells_length, hN])
          clear h hmay hE hW h0 h1 h64 hfit hlo hPN hB0 hk hlow hgl hNle
          go_enter Tryz.func27, Tryz.ntmps27
          go_wp2_with fail
          refine C1.mono ?_
          rintro e w' ⟨rfl, rfl⟩
          go_wp2_with fail
          refine C2.mono ?_
          rintro e w' ⟨rfl, rfl⟩
          clear C1 C2
          go_wp2_with (at_builtin; refine wpList_append_own _ rfl _ _ 106 rfl w.heap.size 111 i0 (.agg #[.int .i64 0, .string ⟨#[]⟩]) 2 24 Tryz.underlying106 hi hz0 hz1 hz2 rfl (by decide) _ 0 _ rfl HR0.out ⟨gl, 0, none⟩ N cl0 (looseCells s.loose) rfl HLC.out HNW.out (looseCells_one _) (by have := HNL.out; unfold maxLen; omega) (by have := HNL.out; omega) HB0.out.size ?_
                       intro v' w1 hrow1 hgrow1 hnil1
                       rw [Nat.zero_add, List.nil_append] at hrow1
                       obtain ⟨ql, cl, rfl⟩ : ∃ ql cl, v' = .slice (some ⟨ql, 0, none⟩) N cl := by
                         rcases hrow1.2 with ⟨e, _⟩ | ⟨g, c, cur, e, _⟩
                         · exact absurd (hnil1.1 e).1 (by intro hc; cases hc)
                         · exact ⟨g, c, e⟩
                       have HB1 := Lib.hid (HB0.out.grown hgrow1 HB0.out.size (fun j hj => (HR0.out.lt j hj).1))
                       have c1b := RO.c1 (H0.out.below HB1.out).obj
                       have HR1 := Lib.hid hrow1
                       clear hrow1 hgrow1 hnil1)
          clear hw0 c1a HR0 HNW HLC
          have hNle := HNL.out
          go_loopw [9, 10] (fun v i wr => ∃ k : Nat, k ≤ N ∧ i = .int .i64 k ∧ v = .bool (seen s.loose n k) ∧ wr.ownsRow w.heap.size 111 2 (.slice (some ⟨ql, 0, none⟩) N cl) N (looseCells (mixed s.loose n x k)) ∧ Below w.heap.size w wr) (fun _ i _ => N - (intOf i).toNat)
          case atStart => exact ⟨0, Nat.zero_le _, rfl, by rw [seen_zero], by rw [mixed_zero]; exact HR1.out, HB1.out⟩
          case round =>
            obtain ⟨k, hkl, rfl, rfl, hrow, hB⟩ := hrel
            have HR := Lib.hid hrow
            have HB := Lib.hid hB
            clear hrow hB HR1 HB1
            by_cases hlt : k < N
            · have hki : (k : Int) < (N : Int) := by omega
              have hlt' : k < s.loose.length := by rw [hN]; exact hlt
              have hml : k < (mixed s.loose n x k).length := by rw [mixed_len]; exact hlt'
              obtain ⟨m1, m2⟩ := looseCells_at (mixed s.loose n x k) k hml
              rw [mixed_at hlt'] at m1 m2
              have d1 : wr.cell? ⟨ql, k * 2, none⟩ = some (.int .i64 s.loose[k].1) := by rw [HR.out.cellAt _ (by omega)]; exact m1
              have d2 : wr.cell? ⟨ql, k * 2 + 1, none⟩ = some (.string s.loose[k].2) := by rw [HR.out.cellAt _ (by omega)]; exact m2
              have f2 : wr.frozen? ⟨ql, k * 2 + 1, none⟩ = false := HR.out.frozenAt _
              have hsn := seen_succ (n := n) hlt'
              have hms := mixed_succ (n := n) (x := x) hlt'
              have HSN := Lib.hid hsn
              by_cases hz : s.loose[k].1 = n
              · have hq : turnQ n x s.loose[k] = (s.loose[k].1, x) := by simp [turnQ, hz]
                rw [hq] at hms
                have hsc := looseCells_set (mixed s.loose n x k) k hml x
                rw [mixed_at hlt', ← hms] at hsc
                have hrow3 := (HR.out.stored (k * 2 + 1) (.string x)).1
                rw [← hsc] at hrow3
                have HR3 := Lib.hid hrow3
                have HB3 := Lib.hid (HB.out.setCell (p := ⟨ql, k * 2 + 1, none⟩) (HR.out.lt ql rfl).1 (.string x))
                have hs1 : seen s.loose n (k + 1) = true := by rw [hsn]; simp [hz]
                have HS1 := Lib.hid hs1
                have hzn : s.loose[k].1 = n := hz
                rw [hzn] at d1
                generalize s.loose[k].2 = y at d2
                clear m1 m2 hsn hms hq hsc hrow3 hs1 hz hzn hml HSN hlt'
                go_wp2_with fail
                go_roundw
                case rel => exact ⟨k + 1, by omega, by go_num, by rw [HS1.out], HR3.out, HB3.out⟩
                case measure => simp [intOf]; omega
              · rw [turnQ_no hz] at hms
                have hms2 : mixed s.loose n x (k + 1) = mixed s.loose n x k := by
                  rw [hms]
                  have e := mixed_at (n := n) (x := x) hlt'
                  conv => lhs; rw [← e]
                  exact List.set_getElem_self _
                have hs1 : seen s.loose n (k + 1) = seen s.loose n k := by rw [hsn]; simp [hz]
                have HS1 := Lib.hid hs1
                have HM2 := Lib.hid hms2
                have hzb : (s.loose[k].1 == n) = false := beq_eq_false_iff_ne.2 hz
                clear m1 m2 hsn hms hms2 hs1 hml HSN
                generalize s.loose[k].1 = z at d1 hz hzb
                generalize s.loose[k].2 = y at d2
                clear hlt'
                go_wp2_with fail
                go_roundw
                case rel => exact ⟨k + 1, by omega, by go_num, by rw [HS1.out], by rw [HM2.out]; exact HR.out, HB.out⟩
                case measure => simp [intOf]; omega
            · obtain rfl : N = k := by omega
              have hki : ¬ ((N : Nat) : Int) < (N : Int) := by omega
              have hrow := HR.out
              rw [← hN, mixed_all, hN] at hrow
              have hsl : seen s.loose n N = s.loose.any fun q => q.1 == n := by rw [← hN, seen_all]
              rw [hsl]
              have hO := (H0.out.below HB.out).obj
              have HR4 := Lib.hid hrow
              clear hrow hsl HR hlt hkl
              have hpn := HPN.out
              cases hany : s.loose.any (fun q => q.1 == n) with
              | true =>
                rw [hany, if_pos rfl, List.append_nil] at hpn
                have f1 := RO.fr hO 1
                have c13 := RO.c1 hO
                have X := H0.out.newLoose HB.out (l' := putL n x s.loose) (v' := .slice (some ⟨ql, 0, none⟩) N cl) (by rw [hpn, List.length_map, hN]; exact HR4.out)
                have HX := Lib.hid X
                have HS := Lib.hid ((Stir.of_below (F := RF r v0) HB.out).set (b := r) (i := 1) (.inl (.inl rfl)) (.slice (some ⟨ql, 0, none⟩) N cl))
                clear X hO hpn HPN hN
                have L := rstep_at HX.out HK.out.arm hm
                have KP := Lib.hid (show s.armed = 1 → kp = s.keep from fun e => H0.out.keep (by omega))
                by_cases ha : s.armed = 1
                · rw [show (({ s with loose := putL n x s.loose } : DS).armed == 1) = true from beq_iff_eq.2 ha] at L
                  obtain rfl := KP.out ha
                  go_wp2_with fail
                  refine L.mono ?_
                  rintro e w4 ⟨rfl, h4, s4⟩
                  have c5 : w4.cell? ⟨r, 5, none⟩ = some (.string s.keep) := RO.c5 h4.obj
                  have S4 := Lib.hid (HS.out.trans s4 (fun i e => .inl e))
                  have F := rgoes_at h4 HL.out (by have := HL.out.few; simp [DS.lays, DS.tick] at this ⊢; omega) (keep := s.keep) HK.out.keep
                  clear h4 s4 L
                  go_wp2_with fail
                  refine F.mono ?_
                  rintro e w5 ⟨rfl, ⟨v1', kp', h5⟩, s5⟩
                  have H5 := Lib.hid h5
                  have S5 := Lib.hid (S4.out.trans s5 (fun i e => .inl e))
                  clear h5 s5 F
                  go_wp2
                  go_ret
                  exact ⟨by rw [← HEE.out, if_pos ha]; rfl, ⟨_, _, by rw [← HTT.out, if_pos ha]; exact H5.out⟩, S5.out⟩
                · rw [show (({ s with loose := putL n x s.loose } : DS).armed == 1) = false from beq_eq_false_iff_ne.2 ha] at L
                  go_wp2_with fail
                  refine L.mono ?_
                  rintro e w4 ⟨rfl, h4, s4⟩
                  have H4 := Lib.hid h4
                  have S4 := Lib.hid (HS.out.trans s4 (fun i e => .inl e))
                  clear h4 s4 L
                  go_wp2
                  go_ret
                  exact ⟨by rw [← HEE.out, if_neg ha]; rfl, ⟨_, _, by rw [← HTT.out, if_neg ha]; exact H4.out⟩, S4.out⟩
              | false =>
                rw [hany, if_neg (by simp)] at hpn
                go_wp2_with (at_builtin; refine wpList_append_own _ rfl _ _ 106 rfl w.heap.size 111 i0 (.agg #[.int .i64 0, .string ⟨#[]⟩]) 2 24 Tryz.underlying106 hi hz0 hz1 hz2 rfl (by decide) _ N _ rfl (HR4.out.alloc _) ⟨wr.heap.size, 0, none⟩ 1 1 [.int .i64 n, .string x] rfl rfl (two_new _ _ _ _) (by simp [Value.oneCell']) (by unfold maxLen; omega) (by omega) (by simp; have := HB.out.size; omega) ?_
                             intro v' w3 hrow3 hgrow3 _
                             obtain ⟨a3, c3, rfl⟩ := row_shape hrow3
                             have hB3 := (HB.out.alloc HB.out.size (.cells #[.int .i64 n, .string x] 111)).grown hgrow3 (by have := HB.out.size; simp; omega) (fun j hj => (HR4.out.lt j hj).1)
                             have ho3 := (H0.out.below hB3).obj
                             have f1 := RO.fr ho3 1
                             have c13 := RO.c1 ho3
                             have X := H0.out.newLoose hB3 (l' := putL n x s.loose) (v' := .slice a3 (N + 1) c3) (by rw [hpn, List.length_append, List.length_map, hN, looseCells_append]; exact hrow3)
                             have HX := Lib.hid X
                             have HS := Lib.hid ((Stir.of_below (F := RF r v0) hB3).set (b := r) (i := 1) (.inl (.inl rfl)) (.slice a3 (N + 1) c3))
                             clear hB3 ho3 hrow3 hgrow3 X)
                have L := rstep_at HX.out HK.out.arm hm
                have KP := Lib.hid (show s.armed = 1 → kp = s.keep from fun e => H0.out.keep (by omega))
                by_cases ha : s.armed = 1
                · rw [show (({ s with loose := putL n x s.loose } : DS).armed == 1) = true from beq_iff_eq.2 ha] at L
                  obtain rfl := KP.out ha
                  go_wp2_with fail
                  refine L.mono ?_
                  rintro e w4 ⟨rfl, h4, s4⟩
                  have c5 : w4.cell? ⟨r, 5, none⟩ = some (.string s.keep) := RO.c5 h4.obj
                  have S4 := Lib.hid (HS.out.trans s4 (fun i e => .inl e))
                  have F := rgoes_at h4 HL.out (by have := HL.out.few; simp [DS.lays, DS.tick] at this ⊢; omega) (keep := s.keep) HK.out.keep
                  clear h4 s4 L
                  go_wp2_with fail
                  refine F.mono ?_
                  rintro e w5 ⟨rfl, ⟨v1', kp', h5⟩, s5⟩
                  have H5 := Lib.hid h5
                  have S5 := Lib.hid (S4.out.trans s5 (fun i e => .inl e))
                  clear h5 s5 F
                  go_wp2
                  go_ret
                  exact ⟨by rw [← HEE.out, if_pos ha]; rfl, ⟨_, _, by rw [← HTT.out, if_pos ha]; exact H5.out⟩, S5.out⟩
                · rw [show (({ s with loose := putL n x s.loose } : DS).armed == 1) = false from beq_eq_false_iff_ne.2 ha] at L
                  go_wp2_with fail
                  refine L.mono ?_
                  rintro e w4 ⟨rfl, h4, s4⟩
                  have H4 := Lib.hid h4
                  have S4 := Lib.hid (HS.out.trans s4 (fun i e => .inl e))
                  clear h4 s4 L
                  go_wp2
                  go_ret
                  exact ⟨by rw [← HEE.out, if_neg ha]; rfl, ⟨_, _, by rw [← HTT.out, if_neg ha]; exact H4.out⟩, S4.out⟩
    · have h64b : ((x.size : Int) == 64) = false := beq_eq_false_iff_ne.2 (by omega)
      rw [show s.writeE n x = 1 by simp [DS.writeE, hmay, h64], show s.write n x = s by simp [DS.write, DS.fits, h64]]
      clear h hmay h64 C2
      go_enter Tryz.func27, Tryz.ntmps27
      go_wp2_with fail
      refine C1.mono ?_
      rintro e w' ⟨rfl, rfl⟩
      go_wp2
      go_ret
      exact ⟨rfl, ⟨_, _, H0.out⟩, Stir.refl _ _⟩
  · have hne : (s.may n == 0) = false := beq_eq_false_iff_ne.2 hmay
    rw [show s.writeE n x = s.may n by simp [DS.writeE, hmay], show s.write n x = s by simp [DS.write, DS.fits, hne]]
    generalize s.may n = E at C1 hmay hne ⊢
    clear h hmay C2
    go_enter Tryz.func27, Tryz.ntmps27
    go_wp2_with fail
    refine C1.mono ?_
    rintro e w' ⟨rfl, rfl⟩
    go_wp2
    go_ret
    exact ⟨rfl, ⟨_, _, H0.out⟩, Stir.refl _ _⟩
end
end Go.Proofs.YtmloljjllmmkoaaGreat

namespace Go.Proofs.YtmloljjllmmkoaaGreat
open Go.RowKit Go Go.Maps SM

section
variable (s : DS)
theorem made_write (n : Int) (x : ByteArray) : (s.write n x).made ≤ s.made + 1 := by
  unfold DS.write
  split
  · split <;> simp [DS.lays, DS.tick, DS.goes]
  · omega
theorem made_sync : s.sync.made ≤ s.made + 1 := by
  unfold DS.sync
  split
  · omega
  · split <;> simp [DS.tick, DS.goes, DS.settled]
theorem made_setBad (n : Int) (f : Bool) : (s.setBad n f).made ≤ s.made + 1 := by
  unfold DS.setBad
  split <;> simp
theorem made_setArm (n : Int) (kp : ByteArray) : (s.setArm n kp).made ≤ s.made + 1 := by
  unfold DS.setArm
  split
  · simp
  · split <;> simp
theorem made_crash (kp : ByteArray) : (s.crash kp).made ≤ s.made + 1 := by
  unfold DS.crash
  split <;> simp [DS.goes]
theorem made_revive : s.revive.made ≤ s.made + 1 := by simp [DS.revive]
end

abbrev OpZ := Int × Int × Int × Int × ByteArray × Bool
def RefK (k r base : Nat) (s : DS) (w : World) : Prop := ∃ zs v0 v1 v2 kp, zs.length ≤ k ∧ RefAt r base s zs v0 v1 v2 kp w
section
variable {w0 w w' : World} {b g m r q k : Nat} {ob : Option OpZ} {s t : DS} {z : OpZ}
variable {b' g' m' : Nat} {s1 : DS}
end
end Go.Proofs.YtmloljjllmmkoaaGreat

