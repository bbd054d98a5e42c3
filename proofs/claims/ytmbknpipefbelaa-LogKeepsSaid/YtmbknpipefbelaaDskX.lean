/-
  The reference's disk in memory; Open, New.
-/
import Derived.Test.YtmbknpipefbelaaDskR
import Derived.Test.YtmbknpipefbelaaDskP
import Derived.OwnWalk
import Derived.RegionTactic
import Derived.BigRegion
import Derived.Laws.AppendOwnNone
import Derived.Deep.AppendLies
import Derived.Maps.AppendAt
import Derived.Deep.RegionLaw
import Derived.Deep.Onto
namespace Go.Proofs.Ytmbknpipefbelaa
open Go.RowKit Go Go.Maps SM

theorem step_append_own {P : Program} (w : World) {ops : Array Oper} {o : Oper} {a : Act} {K : Act → World → Prop} {Q : Exit → Act → World → Prop} {E : Prop} (hgd : o.guard = none) (s x : Operand) (t : TypeId)
    (ho : o.op = .call { callee := .builtin .append, args := #[s, x], argTypes := #[t, t] })
    (base : Nat) (e : TypeId) (i : TypeInfo) (z : Value) (size bytes : Nat) (ht : P.underlying t = some (.slice e)) (hi : P.info? e = some i) (hz : i.zero = some z)
    (hsize : i.size = size) (hby : i.bytes = bytes) (hzs : z.cells.size = size) (hsz : 0 < size)
    (v : Value) (n : Nat) (xs : List Value) (hs : a.eval s = v) (hown : w.ownsRow base e size v n xs)
    (ad : Addr) (m c : Nat) (news : List Value) (hx : a.eval x = .slice (some ad) m c) (hl : news.length = m * size) (hnews : ∀ j u, news[j]? = some u → w.cell? (ad.add j) = some u) (h1 : ∀ u ∈ news, u.oneCell' = true)
    (h63 : n + m ≤ maxLen) (hbytes : (n + m) * bytes ≤ 140737488355328) (hbase : base ≤ w.heap.size)
    (h : ∀ v' w', w'.ownsRow base e size v' (n + m) (xs ++ news) → w.grownBy w' v.ownBlock → (v'.ownBlock = v.ownBlock ∨ v'.ownBlock = some w.heap.size) → (v' = .slice none 0 0 → v = .slice none 0 0) → K (a.put o.dst v') w') :
    if Region.wanted o (yielded ops a.tmps) = true then Oper.wp P o a w K Q else E := by
  have hw : Region.wanted o (yielded ops a.tmps) = true := by simp [Region.wanted, hgd]
  rw [if_pos hw]
  obtain ⟨v', w', hr, h2, h3, h4, h5⟩ := run_append_own_at (P := P) w base t o.type e i z size bytes ht hi hz hsize hby hzs hsz v n xs hown ad m c news hl hnews h1 h63 hbytes hbase
  unfold Oper.wp execOp
  simp only [ho, resolve, invoke, builtin, Sem.run_bind, Sem.run_pure, Result.andThen_ok, List.map_toArray, List.map_cons, List.map_nil, hs, hx, hr]
  exact h v' w' h2 h3 h5 (fun e => (h4.1 e).1)

theorem infoStr : (Try.prog.info? 9).map (fun i => (i.zero, i.size, i.bytes)) = some (some (.string ⟨#[]⟩), 1, 16) := by kernel_rfl
def RO (v0 v1 v2 : Value) (made armed : Nat) (kp : ByteArray) (dead : Bool) : Obj := .cells #[v0, v1, v2, .int .i64 made, .int .i64 armed, .string kp, .bool dead] 81 (0, 0)
section
variable {w : World} {r made armed : Nat} {v0 v1 v2 : Value} {kp : ByteArray} {dead : Bool}
theorem RO.c0 (h : w.heap[r]? = some (RO v0 v1 v2 made armed kp dead)) : w.cell? ⟨r, 0, none⟩ = some v0 := by simp [World.cell?, h, RO]
theorem RO.c1 (h : w.heap[r]? = some (RO v0 v1 v2 made armed kp dead)) : w.cell? ⟨r, 1, none⟩ = some v1 := by simp [World.cell?, h, RO]
theorem RO.c2 (h : w.heap[r]? = some (RO v0 v1 v2 made armed kp dead)) : w.cell? ⟨r, 2, none⟩ = some v2 := by simp [World.cell?, h, RO]
theorem RO.c3 (h : w.heap[r]? = some (RO v0 v1 v2 made armed kp dead)) : w.cell? ⟨r, 3, none⟩ = some (.int .i64 made) := by simp [World.cell?, h, RO]
theorem RO.c4 (h : w.heap[r]? = some (RO v0 v1 v2 made armed kp dead)) : w.cell? ⟨r, 4, none⟩ = some (.int .i64 armed) := by simp [World.cell?, h, RO]
theorem RO.c5 (h : w.heap[r]? = some (RO v0 v1 v2 made armed kp dead)) : w.cell? ⟨r, 5, none⟩ = some (.string kp) := by simp [World.cell?, h, RO]
theorem RO.c6 (h : w.heap[r]? = some (RO v0 v1 v2 made armed kp dead)) : w.cell? ⟨r, 6, none⟩ = some (.bool dead) := by simp [World.cell?, h, RO]
theorem RO.fr (h : w.heap[r]? = some (RO v0 v1 v2 made armed kp dead)) (i : Nat) : w.frozen? ⟨r, i, none⟩ = false := by simp [World.frozen?, h, RO]
end
theorem row_shape {w : World} {base : Nat} {e : TypeId} {size : Nat} {v : Value} {n : Nat} {xs : List Value} (h : w.ownsRow base e size v n xs) : ∃ a cap, v = .slice a n cap := by
  rcases h.2 with ⟨rfl, h0⟩ | ⟨g, cap, cur, rfl, _⟩
  · exact ⟨none, 0, by rw [h0]⟩
  · exact ⟨_, _, rfl⟩
theorem strs_parts (x : ByteArray) (k : Nat) : strVals (parts x k) ++ [.string (x.extract (64 * k) (64 * k + 64))] = strVals (parts x (k + 1)) := by simp [strVals, parts_succ]

/-- a row while a cell of an object of another kind is turned -/
theorem owns_other {w : World} {base n size r i : Nat} {e t : TypeId} {v : Value} {xs : List Value} {C : Array Value} {f : Nat × Nat} (h : w.ownsRow base e size v n xs) (hr : w.heap[r]? = some (.cells C t f)) (hn : t ≠ e) (u : Value) : (w.setCell ⟨r, i, none⟩ u).ownsRow base e size v n xs :=
  owns_stay h ((Stir.refl (· = r) w).set (.inl rfl) u) (fun k hk e' => by
    obtain ⟨C', hC⟩ := owns_block h hk
    subst e'
    rw [hr] at hC
    simp at hC
    exact hn hC.2.1)
/-- in a round of Open's loop -/
def Opening (x : ByteArray) (w : World) (r j : Nat) (wr : World) : Prop := ∃ a c, wr.heap[r]? = some (RO (.slice a j c) (.slice none 0 0) (.slice none 0 0) 0 0 ⟨#[]⟩ false) ∧ wr.ownsRow w.heap.size 9 1 (.slice a j c) j (strVals (parts x j)) ∧ Below w.heap.size w wr

set_option maxRecDepth 100000 in
set_option maxHeartbeats 2000000 in
theorem ropen_yes (x : ByteArray) (k : Nat) (hx : x.size = 64 * k) (h1 : 1 ≤ k) (h2 : k ≤ 16384) (w : World) :
    Calls Try.prog 21 #[.string x] w fun e w' => e = .returned (.tuple #[.pointer (some ⟨w.heap.size, 0, none⟩), .int .i64 0]) ∧ Opening x w w.heap.size k w' := by
  obtain ⟨i0, hi, hz0, hz1, hz2⟩ := info_parts infoStr
  have e0 : ((x.size : Int) == 0) = false := beq_eq_false_iff_ne.2 (by omega)
  have e1 : ((x.size : Int) % 64 != 0) = false := by
    have : (x.size : Int) % 64 = 0 := by omega
    rw [this]; rfl
  have e2 : (x.size : Int) ≤ 1048576 := by omega
  have HX := Lib.hid hx
  have H0 := Lib.hid (show Opening x w w.heap.size 0 (w.alloc (RO (.slice none 0 0) (.slice none 0 0) (.slice none 0 0) 0 0 ⟨#[]⟩ false)) from ⟨none, 0, heap_alloc_new w _, World.ownsRow_nil _ _ _ _, (Below.refl _ w).alloc (Nat.le_refl _) _⟩)
  unfold RO at H0
  clear hx
  go_enter Try.func21, Try.ntmps21
  go_wp2
  clear e0 e1 e2
  go_loopw [5] (fun i wr => ∃ j : Nat, j ≤ k ∧ i = .int .i64 (64 * (j : Int)) ∧ Opening x w w.heap.size j wr) (fun i _ => 64 * k - (intOf i).toNat)
  case atStart => exact ⟨0, Nat.zero_le _, rfl, H0.out⟩
  case round =>
    obtain ⟨j, hj, rfl, a, c, ho, hr, hB⟩ := hrel
    by_cases hjk : j < k
    · have e3 : 64 * (j : Int) < (x.size : Int) := by have := HX.out; omega
      have hsl := fun W => part_run W x j (by have := HX.out; omega)
      obtain ⟨y, hy⟩ : ∃ y, x.extract (64 * j) (64 * j + 64) = y := ⟨_, rfl⟩
      have HP := Lib.hid (show strVals (parts x j) ++ [.string y] = strVals (parts x (j + 1)) by rw [← hy]; exact strs_parts x j)
      rw [hy] at hsl
      clear hy
      have hwr : IntKind.i64.wrap (64 * (j : Int) + 64) = 64 * (j : Int) + 64 := wrapI _ (by omega) (by omega)
      obtain ⟨w2, hw2⟩ : ∃ w2, wr.drew.alloc (.cells #[.string y] 9) = w2 := ⟨_, rfl⟩
      have hB2 : Below wr.heap.size wr w2 := by rw [← hw2]; exact (show Below wr.heap.size wr wr.drew from (Below.refl _ _).drew).alloc (Nat.le_refl _) _
      have c0 := RO.c0 ho
      have c0a : w2.cell? ⟨w.heap.size, 0, none⟩ = some (.slice a j c) := RO.c0 (keeps_of hB2 ho)
      have r2 := owns_below hr hB2
      have hN : ∀ (i : Nat) (u : Value), [Value.string y][i]? = some u → w2.cell? ((⟨wr.heap.size, 0, none⟩ : Addr).add i) = some u := by
        rw [← hw2]
        exact cell_one_new wr.drew (.string y) 9
      have HB2 := Lib.hid (hB.trans (hB2.mono hB.size))
      have HO2 := Lib.hid (keeps_of hB2 ho)
      have HR2 := Lib.hid r2
      have HN := Lib.hid hN
      have HL := Lib.hid (show w.heap.size ≤ w2.heap.size from HB2.out.size)
      clear ho hr hB r2 hN hB2 H0
      go_wp2_with fail
      go_region_law (first
        | (refine step_append_own _ (by rfl) (.tmp 32) (.tmp 38) _ (by rfl) w.heap.size 9 i0 (.string ⟨#[]⟩) 1 16 Try.underlying29 hi hz0 hz1 hz2 rfl (by decide) _ j _ (by rfl) HR2.out ⟨wr.heap.size, 0, none⟩ 1 1 [.string y] (by rfl) rfl HN.out (by simp [Value.oneCell']) (by unfold maxLen; omega) (by omega) HL.out ?_; intro v' w3 hrow3 hgrow3 _ _; obtain ⟨a3, c3, rfl⟩ := row_shape hrow3; have HB3 := Lib.hid (HB2.out.grown hgrow3 HL.out (fun j hj => (HR2.out.lt j hj).1)); have hO3 := (stir_of_grown hgrow3).keep HO2.out (fun e => by obtain ⟨C, hC⟩ := owns_block HR2.out e; rw [HO2.out] at hC; simp [RO] at hC); have d0 := RO.c0 hO3; have g0 := RO.fr hO3 0; rw [HP.out] at hrow3; have HO3 := Lib.hid hO3; have HR3 := Lib.hid hrow3; clear hO3 hrow3 hgrow3))
      all_goals (
        clear c0 c0a hsl
        go_wp2
        go_roundw
        case rel =>
          refine ⟨j + 1, by omega, ?_, a3, c3, by rw [heap_set HO3.out]; simp [RO], owns_other HR3.out HO3.out (by decide) _, HB3.out.setCell (p := ⟨w.heap.size, 0, none⟩) (Nat.le_refl _) _⟩
          rw [show (64 * ((j + 1 : Nat) : Int)) = 64 * (j : Int) + 64 by omega]
        case measure => have := HX.out; simp [intOf]; omega)
    · have e3 : ¬ 64 * (j : Int) < (x.size : Int) := by have := HX.out; omega
      have HO := Lib.hid ho
      have HR := Lib.hid hr
      have HB := Lib.hid hB
      clear ho hr hB
      go_wp2
      go_ret2
      obtain rfl : j = k := by omega
      exact ⟨rfl, a, c, HO.out, HR.out, HB.out⟩

set_option maxRecDepth 100000 in
theorem ropen_no (x : ByteArray) (hs : x.size ≤ 140737488355328) (h : x.size = 0 ∨ x.size % 64 ≠ 0 ∨ 1048576 < x.size) (w : World) :
    Calls Try.prog 21 #[.string x] w fun e w' => e = .returned (.tuple #[.pointer none, .int .i64 60]) ∧ w = w' := by
  by_cases h1 : x.size = 0
  · have e0 : ((x.size : Int) == 0) = true := beq_iff_eq.2 (by omega)
    clear h
    go_enter Try.func21, Try.ntmps21
    go_wp2
    go_ret2
    exact ⟨rfl, rfl⟩
  · have e0 : ((x.size : Int) == 0) = false := beq_eq_false_iff_ne.2 (by omega)
    by_cases h2 : x.size % 64 = 0
    · have h3 : (1048576 : Int) < (x.size : Int) := by omega
      have e1 : ((x.size : Int) % 64 != 0) = false := by
        have : (x.size : Int) % 64 = 0 := by omega
        rw [this]; rfl
      clear h
      go_enter Try.func21, Try.ntmps21
      go_wp2
      go_ret2
      exact ⟨rfl, rfl⟩
    · have e1 : ((x.size : Int) % 64 != 0) = true := by
        have : (x.size : Int) % 64 ≠ 0 := by omega
        simpa using this
      clear h
      go_enter Try.func21, Try.ntmps21
      go_wp2
      go_ret2
      exact ⟨rfl, rfl⟩

/-! ### A text of noughts -/
def nought (k : Nat) : ByteArray := ⟨(List.replicate k (0 : UInt8)).toArray⟩
theorem size_nought (k : Nat) : (nought k).size = k := by simp [nought, ByteArray.size]
theorem nought_part {n j : Nat} (h : 64 * j + 64 ≤ n) : (nought n).extract (64 * j) (64 * j + 64) = zero64 := by
  apply ByteArray.ext
  apply Array.toList_inj.1
  rw [Lib.extract_data]
  simp only [nought, zero64, List.drop_replicate, List.take_replicate]
  rw [show min (64 * j + 64 - 64 * j) (n - 64 * j) = 64 by omega]
theorem parts_blank {x : ByteArray} {k : Nat} (h : ∀ j, j < k → x.extract (64 * j) (64 * j + 64) = zero64) : parts x k = blank k := by
  refine List.ext_getElem (by simp [parts, blank]) (fun i h1 h2 => ?_)
  have hi : i < k := by simpa [parts] using h1
  simp [parts, blank, h i hi]
theorem made_text (w : World) (k : Nat) (h : k ≤ 1048640) :
    (Instr.makeSlice 43 (.int .i64 (k : Int)) (.int .i64 (k : Int))).run Try.prog w = .ok (.slice (some ⟨w.heap.size, 0, none⟩) k k) (w.alloc (.cells (madeCells #[.int .u8 0] k) 5)) ∧
    (convert 43 9 (.slice (some ⟨w.heap.size, 0, none⟩) k k)).run Try.prog (w.alloc (.cells (madeCells #[.int .u8 0] k) 5)) = .ok (.string (nought k)) (w.alloc (.cells (madeCells #[.int .u8 0] k) 5)) := by
  obtain ⟨i0, hi, hz0, hz1, hz2⟩ := info_parts info5e
  have hmk := run_makeSlice (P := Try.prog) (w := w) 43 5 i0 (.int .u8 0) Try.underlying43 hi hz0 .i64 .i64 (k : Int) (k : Int) (by omega) (by omega) (by rw [hz1]; omega) (by rw [hz2]; omega) (by omega)
  rw [hz1, Nat.mul_one, Int.toNat_natCast, show Value.cells (.int .u8 0) = #[.int .u8 0] from rfl] at hmk
  refine ⟨hmk, ?_⟩
  have := (made_row w k h).conv (o := 0) (n := k) (c := k) (by simp)
  rw [List.drop_zero, List.take_of_length_le (by simp)] at this
  exact this

/-- a new disk of the reference -/
def RNew (w : World) (r n : Nat) (w' : World) : Prop := w.heap.size ≤ r ∧ ∃ a c, w'.heap[r]? = some (RO (.slice a n c) (.slice none 0 0) (.slice none 0 0) 0 0 ⟨#[]⟩ false) ∧ w'.ownsRow w.heap.size 9 1 (.slice a n c) n (strVals (blank n)) ∧ Below w.heap.size w w'
set_option maxRecDepth 100000 in
theorem rnew_yes (n : Nat) (h1 : 1 ≤ n) (h2 : n ≤ 16384) (w : World) :
    Calls Try.prog 29 #[.int .i64 n] w fun e w' => ∃ r, e = .returned (.tuple #[.pointer (some ⟨r, 0, none⟩), .int .i64 0]) ∧ RNew w r n w' := by
  obtain ⟨m1, m2⟩ := made_text w (64 * n) (by omega)
  rw [show ((64 * n : Nat) : Int) = 64 * (n : Int) by omega] at m1
  obtain ⟨w1, hw1⟩ : ∃ w1, w.alloc (.cells (madeCells #[.int .u8 0] (64 * n)) 5) = w1 := ⟨_, rfl⟩
  rw [hw1] at m1 m2
  have hB : Below w.heap.size w w1 := by rw [← hw1]; exact (Below.refl _ w).alloc (Nat.le_refl _) _
  have hpn : parts (nought (64 * n)) n = blank n := parts_blank (fun j hj => nought_part (by omega))
  have C := ropen_yes (nought (64 * n)) n (size_nought _) h1 h2 w1
  unfold Opening at C
  rw [hpn] at C
  have HB := Lib.hid hB
  generalize nought (64 * n) = X at m2 C
  clear hw1 hB hpn
  go_enter Try.func29, Try.ntmps29
  go_wp2_with fail
  refine C.mono ?_
  rintro e w2 ⟨rfl, a, c, ho, hr, hB2⟩
  have HO := Lib.hid ho
  have HR := Lib.hid hr
  have HB2 := Lib.hid (HB.out.trans (hB2.mono HB.out.size))
  clear ho hr hB2 m1 m2
  go_wp2
  go_ret2
  exact ⟨_, rfl, HB.out.size, a, c, HO.out, HR.out.mono HB.out.size, HB2.out⟩
theorem rnew_no (n : Int) (h : n < 1 ∨ 16384 < n) (w : World) :
    Calls Try.prog 29 #[.int .i64 n] w fun e w' => e = .returned (.tuple #[.pointer none, .int .i64 60]) ∧ w = w' := by
  by_cases h1 : n < 1
  · clear h
    go_enter Try.func29, Try.ntmps29
    go_wp2
    go_ret2
    exact ⟨rfl, rfl⟩
  · have h2 : 16384 < n := by omega
    clear h
    go_enter Try.func29, Try.ntmps29
    go_wp2
    go_ret2
    exact ⟨rfl, rfl⟩
end Go.Proofs.Ytmbknpipefbelaa
