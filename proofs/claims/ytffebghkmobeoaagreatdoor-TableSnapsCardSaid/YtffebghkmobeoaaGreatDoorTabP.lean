/-
  Lists of bytes: package tables' loop, at each of its three instances.
-/
import Derived.Test.YtffebghkmobeoaaGreatDoorTabG
import Derived.Test.YtffebghkmobeoaaGreatDoorWirI
import Derived.Lib.SmallJoins
namespace Go.Proofs.YtffebghkmobeoaaGreatDoor
open Go.RowKit Go

def lenOf : Value → Nat
  | .slice _ n _ => n
  | _ => 0
theorem cells_new (w : World) (cs : List Value) (t : TypeId) : ∀ j u, cs[j]? = some u → (w.alloc (.cells cs.toArray t)).cell? ((⟨w.heap.size, 0, none⟩ : Addr).add j) = some u := by
  intro j u hj
  have h := heap_alloc_new w (.cells cs.toArray t)
  generalize w.alloc (.cells cs.toArray t) = W at h ⊢
  rw [Addr.add_lit]
  simp [World.cell?, h, hj]
theorem owns_later {W W' : World} {base k : Nat} {e : TypeId} {v : Value} {n : Nat} {xs : List Value} (h : W.ownsRow base e k v n xs) (hB : Below W.heap.size W W') : W'.ownsRow base e k v n xs := by
  refine ⟨h.1, ?_⟩
  rcases h.2 with h1 | ⟨g, cap, cur, rfl, h2, h3, h4⟩
  · exact .inl h1
  · exact .inr ⟨g, cap, cur, rfl, h2, (hB.block g (lt_of_heap h3)).trans h3, h4⟩
theorem owns_moved' {W W' : World} {base k b : Nat} {o : Obj} {e : TypeId} {v : Value} {n : Nat} {xs : List Value} (h : W.ownsRow base e k v n xs) (hM : Moved b o W W') (hb : b < base) : W'.ownsRow base e k v n xs := by
  refine ⟨h.1, ?_⟩
  rcases h.2 with h1 | ⟨g, cap, cur, rfl, h2, h3, h4⟩
  · exact .inl h1
  · exact .inr ⟨g, cap, cur, rfl, h2, (hM.block g (lt_of_heap h3) (by omega)).trans h3, h4⟩
theorem owns_set {W : World} {base k c i : Nat} {e : TypeId} {v : Value} {n : Nat} {xs : List Value} (h : W.ownsRow base e k v n xs) (hc : ∀ g, v.ownBlock = some g → g ≠ c) (x : Value) : (W.setCell ⟨c, i, none⟩ x).ownsRow base e k v n xs := by
  refine ⟨h.1, ?_⟩
  rcases h.2 with h1 | ⟨g, cap, cur, rfl, h2, h3, h4⟩
  · exact .inl h1
  · exact .inr ⟨g, cap, cur, rfl, h2, heap_set_other h3 (hc g rfl) x, h4⟩
theorem row_shape {w : World} {base : Nat} {e : TypeId} {size : Nat} {v : Value} {n : Nat} {xs : List Value} (h : w.ownsRow base e size v n xs) : ∃ a cap, v = .slice a n cap := by
  rcases h.2 with ⟨rfl, h0⟩ | ⟨g, cap, cur, rfl, _⟩
  · exact ⟨none, 0, by rw [h0]⟩
  · exact ⟨_, _, rfl⟩
theorem flat_at {T : Type} {C : T → List Value} {k : Nat} (hC : ∀ x, (C x).length = k) : ∀ (l : List T) (j : Nat) (hj : j < l.length) (i : Nat) (_ : i < k), (l.flatMap C)[j * k + i]? = (C l[j])[i]?
  | x :: l, 0, _, i, hi => by
    rw [List.flatMap_cons, Nat.zero_mul, Nat.zero_add, List.getElem?_append_left (by rw [hC]; exact hi)]
    rfl
  | x :: l, j + 1, hj, i, hi => by
    rw [List.flatMap_cons, List.getElem?_append_right (by rw [hC, Nat.succ_mul]; omega), hC, show (j + 1) * k + i - k = j * k + i by rw [Nat.succ_mul]; omega]
    exact flat_at hC l j (by simpa using hj) i hi
/-- a row of the call's own, as a list of things -/
theorem lst_of_owns {T : Type} {C : T → List Value} {k base : Nat} {e : TypeId} {W : World} {v : Value} {l : List T} (hC : ∀ x, (C x).length = k) (_ : 0 < k) (h : W.ownsRow base e k v l.length (l.flatMap C)) : LstAt C k W v l := by
  rcases h.2 with ⟨rfl, h0⟩ | ⟨g, cap, cur, rfl, h2, h3, h4, h5, h6, h7⟩
  · exact ⟨none, 0, by rw [h0], fun hne => absurd (List.eq_nil_of_length_eq_zero h0) hne⟩
  · refine ⟨_, cap, rfl, fun _ => ⟨g, 0, rfl, lt_of_heap h3, fun j hj i hi => ?_⟩⟩
    have hlt : j * k + i < l.length * k := by
      have : (j + 1) * k ≤ l.length * k := Nat.mul_le_mul_right _ hj
      rw [Nat.succ_mul] at this; omega
    rw [Nat.zero_add, h.cellAt (j * k + i) hlt]
    exact flat_at hC l j hj i hi
theorem numR_upto (r : Rd) (m : Int) (hm : 0 ≤ m) : ((numR r m).1 : Int) ≤ m := by
  by_cases h : (numR r m).2.err = 0
  · exact numR_le r m h
  · rw [numR_zero r m h]; exact hm
theorem textR_upto (r : Rd) (m : Int) : (textR r m).1.length ≤ 65536 := by
  have h := numR_low r m
  unfold textR bytesR
  split
  · split
    · rw [List.length_take]; omega
    · simp
  · simp
theorem inoRd_rest (r : Rd) : (inoRd 65535 65535 4095 16384 r).2.rest.length ≤ r.rest.length :=
  Nat.le_trans (numR_rest _ _) (Nat.le_trans (numR_rest _ _) (Nat.le_trans (numR_rest _ _) (Nat.le_trans (numR_rest _ _) (numR_rest _ _))))
theorem entRd_rest (r : Rd) : (entRd 65535 r).2.rest.length ≤ r.rest.length := Nat.le_trans (numR_rest _ _) (textR_rest _ _)
theorem snpRd_rest (r : Rd) : (snpRd 1099511627776 7 4095 16384 r).2.rest.length ≤ r.rest.length :=
  Nat.le_trans (numR_rest _ _) (Nat.le_trans (numR_rest _ _) (Nat.le_trans (numR_rest _ _) (Nat.le_trans (numR_rest _ _) (textR_rest _ _))))
theorem entRd_name (r : Rd) : (entRd 65535 r).1.name.size ≤ 65536 := by
  show (bs (textR r 16).1).size ≤ 65536
  rw [bs_size]; exact textR_upto r 16
theorem snpRd_name (r : Rd) : (snpRd 1099511627776 7 4095 16384 r).1.name.size ≤ 65536 := by
  show (bs (textR r 16).1).size ≤ 65536
  rw [bs_size]; exact textR_upto r 16
theorem readN_stop {T : Type} {f : Rd → T × Rd} {N j : Nat} {rk : Rd} {acc : List T} (hj : j ≤ N) : (rk.err = 0 ∧ j < N) ∨ (readN f (N - j) rk acc = (acc, rk) ∧ (rk.err ≠ 0 ∨ (rk.err = 0 ∧ j = N))) := by
  by_cases he : rk.err = 0
  · by_cases h : j < N
    · exact .inl ⟨he, h⟩
    · exact .inr ⟨by rw [show N - j = 0 by omega]; rfl, .inr ⟨he, by omega⟩⟩
  · refine .inr ⟨?_, .inl he⟩
    cases N - j with
    | zero => rfl
    | succ m => rw [readN, if_neg he]
theorem readN_step {T : Type} (f : Rd → T × Rd) {N j : Nat} {rk : Rd} (he : rk.err = 0) (hj : j < N) (acc : List T) : readN f (N - j) rk acc = readN f (N - (j + 1)) (f rk).2 (acc ++ [(f rk).1]) := by
  rw [show N - j = (N - (j + 1)) + 1 by omega, readN, if_pos he]
/-- what a reading of bytes answers -/
def Parsed {T : Type} (K : Kd T) (C : T → List Value) (k : Nat) (te : TypeId) (s : List UInt8) (w : World) (e : Ending) (w' : World) : Prop :=
  ((∃ l v, IsL K s l ∧ e = .returned (.tuple #[v, .int .i64 0]) ∧ w'.ownsRow w.heap.size te k v l.length (l.flatMap C)) ∨ ((∀ l, ¬ IsL K s l) ∧ e = .returned (.tuple #[.slice none 0 0, .int .i64 120]))) ∧ Below w.heap.size w w'
theorem Parsed.down {T : Type} {K : Kd T} {C : T → List Value} {k : Nat} {te : TypeId} {s : List UInt8} {w w1 w' : World} {e : Ending} (h : Parsed K C k te s w1 e w') (hB : Below w.heap.size w w1) : Parsed K C k te s w e w' := by
  obtain ⟨h1, h2⟩ := h
  refine ⟨?_, hB.trans (h2.mono hB.size)⟩
  rcases h1 with ⟨l, v, a, b, c⟩ | h1
  · exact .inl ⟨l, v, a, b, Joins.ownsRow_le c hB.size⟩
  · exact .inr h1
theorem Moved.below1 {b B : Nat} {o : Obj} {w v u : World} (h : Moved b o w v) (hb : B ≤ b) (hB : B ≤ w.heap.size) (k : Below v.heap.size v u) : Below B w u :=
  (h.below hb hB).trans (k.mono (Nat.le_trans hB h.size))
theorem infoIno : (Tryz.prog.info? 64).map (fun i => (i.zero, i.size, i.bytes)) = some (some (.agg #[.int .i64 0, .bool false, .int .i64 0, .int .i64 0, .int .i64 0]), 5, 40) := by kernel_rfl
theorem inoC_len (x : Ino) : (inoC x).length = 5 := rfl
set_option maxRecDepth 100000 in
set_option maxHeartbeats 4000000 in
theorem inoParse_any (s : ByteArray) (hs : s.size ≤ 281474976710656) (w : World) (hg : GE w) :
    Calls Tryz.prog 49 #[tblIno, .string s] w fun e w' => Parsed kI inoC 5 64 s.data.toList w e w' := by
  obtain ⟨pn, hpn⟩ : ∃ pn, numR ⟨s.data.toList, 0⟩ 4096 = pn := ⟨_, rfl⟩
  have hn4 : pn.1 ≤ 4096 := by have := numR_upto ⟨s.data.toList, 0⟩ 4096 (by omega); rw [hpn] at this; omega
  have hpr : pn.2.rest.length ≤ 281474976710656 := by rw [← hpn]; exact Nat.le_trans (numR_rest _ _) (by rw [len_of]; exact hs)
  obtain ⟨P, hP⟩ : ∃ P, parsed (inoRd 65535 65535 4095 16384) s.data.toList = P := ⟨_, rfl⟩
  have HP := Lib.hid (show readN (inoRd 65535 65535 4095 16384) pn.1 pn.2 [] = P by rw [← hP, ← hpn]; rfl)
  have HD := Lib.hid (show endR P.2 = 0 → May kI P.1 → IsL kI s.data.toList P.1 by rw [← hP]; exact isL_self (readsI (by omega) (by omega) (by omega) (by omega)))
  have HND := Lib.hid (show ¬ (endR P.2 = 0 ∧ May kI P.1) → ∀ l, ¬ IsL kI s.data.toList l by rw [← hP]; exact isL_none (readsI (by omega) (by omega) (by omega) (by omega)))
  clear hP
  obtain ⟨w0, hw0⟩ : ∃ w0, w.alloc tblOIno = w0 := ⟨_, rfl⟩
  have HB0 := Lib.hid (show Below w.heap.size w w0 by rw [← hw0]; exact (Below.refl _ w).alloc (Nat.le_refl _) _)
  have HO := Lib.hid (show w0.heap[w.heap.size]? = some tblOIno by rw [← hw0]; exact heap_alloc_new w _)
  have hgl := hg.lt
  have hg0 := hg.below HB0.out
  unfold tblOIno at hw0
  unfold tblIno
  have C0 := rnew_any s w0
  go_enter Tryz.func49, Tryz.ntmps49
  go_wp2_with fail
  refine C0.mono ?_
  rintro e w2 ⟨b, rfl, hb1, hb2, hB2⟩
  have hb : w2.heap[b]? = some (RO ⟨s.data.toList, 0⟩) := hb2
  have hbl := lt_of_heap hb
  have hww0 : w.heap.size < w0.heap.size := lt_of_heap HO.out
  have hwb : w.heap.size ≠ b := by omega
  have hwb1 : w.heap.size ≤ b := by omega
  have hgb : 0 ≠ b := by omega
  have hb0 : b ≠ 0 := fun e => hgb e.symm
  have hg2 : GE w2 := hg0.below hB2
  have HO2 := Lib.hid ((hB2.block _ hww0).trans HO.out)
  have HB2 := Lib.hid (HB0.out.trans (hB2.mono HB0.out.size))
  have C1 := qnum_any b hb0 ⟨s.data.toList, 0⟩ 4096 (by rw [len_of]; exact hs) w2 hg2 hb
  rw [hpn] at C1
  obtain ⟨N, r0⟩ := pn
  simp only at hn4 hpr C1
  have hw2 : w.heap.size < w2.heap.size := Nat.lt_of_lt_of_le hww0 hB2.size
  clear hb2 hB2 C0 hpn hw0 hb1 hg0 hww0
  go_wp2_with fail
  refine C1.mono ?_
  rintro e w3 ⟨rfl, hM3⟩
  have HM3 := Lib.hid hM3
  clear hM3 C1 hb
  unfold numV
  obtain ⟨i0, hi, hz0, hz1, hz2⟩ := info_parts infoIno
  go_wp2_with fail
  go_loopw [8, 9] (fun x v wr => ∃ (j : Nat) (acc : List Ino) (rk : Rd), j ≤ N ∧ acc.length = j ∧ x = .int .i64 rk.err ∧ rk.rest.length ≤ 281474976710656 ∧ readN (inoRd 65535 65535 4095 16384) (N - j) rk acc = P ∧ wr.ownsRow w2.heap.size 64 5 v j (acc.flatMap inoC) ∧ Moved b (RO rk) w2 wr) (fun _ v _ => N - (lenOf v))
  case atStart => exact ⟨0, [], r0, Nat.zero_le _, rfl, rfl, hpr, HP.out, World.ownsRow_nil _ _ _ _, HM3.out⟩
  case round =>
    obtain ⟨j, acc, rk, hj, hacc, rfl, hrk, hread, hrow, hM⟩ := hrel
    have HACC := Lib.hid hacc
    have HRD := Lib.hid hread
    have HRW := Lib.hid hrow
    have HM := Lib.hid hM
    obtain ⟨av, cv, rfl⟩ := row_shape hrow
    clear hacc hread hrow hM HM3 HP
    have hstop : (rk.err = 0 ∧ j < N) ∨ (readN (inoRd 65535 65535 4095 16384) (N - j) rk acc = (acc, rk) ∧ (rk.err ≠ 0 ∨ (rk.err = 0 ∧ j = N))) := readN_stop hj
    rcases hstop with ⟨he, hlt⟩ | ⟨hstop, hwhy⟩
    · have hji : (j : Int) < (N : Int) := by omega
      have HST := Lib.hid (readN_step (inoRd 65535 65535 4095 16384) he hlt acc)
      have hwr := HM.out.size
      have hrest := inoRd_rest rk
      have C1 := fun w => inoRd_any b hb0 rk hrk w
      obtain ⟨q, hq⟩ : ∃ q, inoRd 65535 65535 4095 16384 rk = q := ⟨_, rfl⟩
      rw [hq] at C1 hrest HST
      obtain ⟨y, r1⟩ := q
      simp only at C1 hrest HST
      have hr1 : r1.rest.length ≤ 281474976710656 := Nat.le_trans hrest hrk
      clear hq hrest
      unfold inoV at C1
      obtain ⟨u0, hu0⟩ : ∃ u, wr.alloc (.cells #[.int .i64 0, .bool false, .int .i64 0, .int .i64 0, .int .i64 0] 64) = u := ⟨_, rfl⟩
      have HX0 := Lib.hid (show u0.heap[wr.heap.size]? = some (.cells #[.int .i64 0, .bool false, .int .i64 0, .int .i64 0, .int .i64 0] 64 (0, 0)) by rw [← hu0]; exact heap_alloc_new wr _)
      have HU0 := Lib.hid (show Below wr.heap.size wr u0 by rw [← hu0]; exact (Below.refl _ wr).alloc (Nat.le_refl _) _)
      have HMU := Lib.hid (HM.out.and HU0.out)
      have hfn : u0.cell? ⟨w.heap.size, 1, none⟩ = some (.func (.func 66) #[] #[]) := by have e := HMU.out.other HO2.out hwb; simp [World.cell?, e, tblOIno]
      rw [he]
      go_wp2_with fail
      refine (C1 _ (hg2.moved HMU.out hb0) HMU.out.here).mono ?_
      rintro e w4 ⟨rfl, hM4⟩
      have hBn : wr.heap.size ≠ b := by have := lt_of_heap HM.out.here; omega
      have hx := hM4.other HX0.out hBn
      have hM5 := HMU.out.trans hM4
      have z0 : w4.cell? ⟨wr.heap.size, 0, none⟩ = some (.int .i64 0) := by simp [World.cell?, hx]
      have z1 : w4.cell? ⟨wr.heap.size, 1, none⟩ = some (.bool false) := by simp [World.cell?, hx]
      have z2 : w4.cell? ⟨wr.heap.size, 2, none⟩ = some (.int .i64 0) := by simp [World.cell?, hx]
      have z3 : w4.cell? ⟨wr.heap.size, 3, none⟩ = some (.int .i64 0) := by simp [World.cell?, hx]
      have z4 : w4.cell? ⟨wr.heap.size, 4, none⟩ = some (.int .i64 0) := by simp [World.cell?, hx]
      have f0 : w4.frozen? ⟨wr.heap.size, 0, none⟩ = false := by simp [World.frozen?, hx]
      have f1 : w4.frozen? ⟨wr.heap.size, 1, none⟩ = false := by simp [World.frozen?, hx]
      have f2 : w4.frozen? ⟨wr.heap.size, 2, none⟩ = false := by simp [World.frozen?, hx]
      have f3 : w4.frozen? ⟨wr.heap.size, 3, none⟩ = false := by simp [World.frozen?, hx]
      have f4 : w4.frozen? ⟨wr.heap.size, 4, none⟩ = false := by simp [World.frozen?, hx]
      obtain ⟨u1, hu1⟩ : ∃ u, (((((w4.setCell ⟨wr.heap.size, 0, none⟩ (.int .i64 y.num)).setCell ⟨wr.heap.size, 1, none⟩ (.bool y.dir)).setCell ⟨wr.heap.size, 2, none⟩ (.int .i64 y.links)).setCell ⟨wr.heap.size, 3, none⟩ (.int .i64 y.root)).setCell ⟨wr.heap.size, 4, none⟩ (.int .i64 y.size)) = u := ⟨_, rfl⟩
      have HX := Lib.hid (show u1.heap[wr.heap.size]? = some (.cells #[.int .i64 y.num, .bool y.dir, .int .i64 y.links, .int .i64 y.root, .int .i64 y.size] 64 (0, 0)) by rw [← hu1]; exact (heap_set (heap_set (heap_set (heap_set (heap_set hx (i := 0) (.int .i64 y.num)) (i := 1) (.bool y.dir)) (i := 2) (.int .i64 y.links)) (i := 3) (.int .i64 y.root)) (i := 4) (.int .i64 y.size)))
      have HM6 := Lib.hid (show Moved b (RO r1) w2 u1 by rw [← hu1]; exact (((((hM5.setNew hwr hbl (i := 0) (.int .i64 y.num)).setNew hwr hbl (i := 1) (.bool y.dir)).setNew hwr hbl (i := 2) (.int .i64 y.links)).setNew hwr hbl (i := 3) (.int .i64 y.root)).setNew hwr hbl (i := 4) (.int .i64 y.size)))
      have hx1 := HX.out
      have d0 : u1.cell? ⟨wr.heap.size, 0, none⟩ = some (.int .i64 y.num) := by simp [World.cell?, hx1]
      have d1 : u1.cell? ⟨wr.heap.size, 1, none⟩ = some (.bool y.dir) := by simp [World.cell?, hx1]
      have d2 : u1.cell? ⟨wr.heap.size, 2, none⟩ = some (.int .i64 y.links) := by simp [World.cell?, hx1]
      have d3 : u1.cell? ⟨wr.heap.size, 3, none⟩ = some (.int .i64 y.root) := by simp [World.cell?, hx1]
      have d4 : u1.cell? ⟨wr.heap.size, 4, none⟩ = some (.int .i64 y.size) := by simp [World.cell?, hx1]
      have hrow4 : w4.ownsRow w2.heap.size 64 5 (.slice av j cv) j (acc.flatMap inoC) := owns_moved' (owns_later HRW.out HU0.out) hM4 hbl
      have hrow2 : u1.ownsRow w2.heap.size 64 5 (.slice av j cv) j (acc.flatMap inoC) := by
        rw [← hu1]
        have hne : ∀ g, Value.ownBlock (.slice av j cv) = some g → g ≠ wr.heap.size := fun g hg2 => by have := (HRW.out.lt g hg2).2; omega
        exact (owns_set (owns_set (owns_set (owns_set (owns_set hrow4 hne (i := 0) (.int .i64 y.num)) hne (i := 1) (.bool y.dir)) hne (i := 2) (.int .i64 y.links)) hne (i := 3) (.int .i64 y.root)) hne (i := 4) (.int .i64 y.size))
      have hsz : w2.heap.size ≤ u1.heap.size := HM6.out.size
      clear hx hx1 hM4 hM5 hrow4 C1
      go_wp2_with (at_builtin; refine wpList_append_own _ rfl _ _ 65 rfl w2.heap.size 64 i0 (.agg #[.int .i64 0, .bool false, .int .i64 0, .int .i64 0, .int .i64 0]) 5 40 Tryz.underlying65 hi hz0 hz1 hz2 rfl (by decide) _ _ _ rfl (hrow2.alloc _) ⟨u1.heap.size, 0, none⟩ 1 1 [.int .i64 y.num, .bool y.dir, .int .i64 y.links, .int .i64 y.root, .int .i64 y.size] rfl rfl (cells_new u1 [.int .i64 y.num, .bool y.dir, .int .i64 y.links, .int .i64 y.root, .int .i64 y.size] _) (by simp [Value.oneCell']) (by unfold maxLen; omega) (by omega) (by simp; omega) ?_; intro v' w5 hown' hgrow _; have hB4 : Below w2.heap.size u1 w5 := ((Below.refl _ u1).alloc hsz _).grown hgrow (by simp; omega) (fun j ej => (hrow2.lt j ej).1); have HM7 := Lib.hid (HM6.out.andB hbl hB4); have HO4 := Lib.hid hown'; obtain ⟨av2, cv2, rfl⟩ := row_shape hown'; clear hown' hgrow hB4)
      go_roundw
      case rel => exact ⟨j + 1, acc ++ [y], r1, by omega, by simp [HACC.out], rfl, hr1, by rw [← HST.out]; exact HRD.out, by rw [List.flatMap_append, List.flatMap_singleton]; exact HO4.out, HM7.out⟩
      case measure => simp [lenOf]; omega
    · have HPE := Lib.hid (show (acc, rk) = P from hstop.symm.trans HRD.out)
      have hg3 := hg2.moved HM.out hb0
      have C3 := qend_any b rk wr hg3 HM.out.here
      have C4 := fun w' (hB : Below wr.heap.size wr w') => inoMay_any (.slice av j cv) acc (by rw [HACC.out]; omega) w' ((lst_of_owns inoC_len (by decide) (by rw [HACC.out]; exact HRW.out)).later hB)
      have hc0 : ∀ W, Below wr.heap.size wr W → W.cell? ⟨w.heap.size, 0, none⟩ = some (.func (.func 65) #[] #[]) ∧ W.cell? ⟨w.heap.size, 1, none⟩ = some (.func (.func 66) #[] #[]) ∧ W.cell? ⟨w.heap.size, 2, none⟩ = some (.func (.func 67) #[] #[]) ∧ W.cell? ⟨w.heap.size, 3, none⟩ = some (.func (.func 68) #[] #[]) := fun W hW => by
        have e := (hW.block _ (Nat.lt_of_lt_of_le hw2 HM.out.size)).trans (HM.out.other HO2.out hwb)
        exact ⟨by simp [World.cell?, e, tblOIno], by simp [World.cell?, e, tblOIno], by simp [World.cell?, e, tblOIno], by simp [World.cell?, e, tblOIno]⟩
      have HC0 := Lib.hid hc0
      clear hc0 hstop
      have HY := Lib.hid (show endR rk = 0 → mayB kI acc = true → IsL kI s.data.toList acc from fun h1 h2 => by have := HD.out; rw [← HPE.out] at this; exact this h1 (mayB_iff.1 h2))
      have HN1 := Lib.hid (show endR rk ≠ 0 → ∀ l, ¬ IsL kI s.data.toList l from fun h1 => by have := HND.out; rw [← HPE.out] at this; exact this fun e => h1 e.1)
      have HN2 := Lib.hid (show mayB kI acc = false → ∀ l, ¬ IsL kI s.data.toList l from fun h1 => by have := HND.out; rw [← HPE.out] at this; exact this fun e => absurd (mayB_iff.2 e.2) (by rw [h1]; decide))
      unfold tblIno at C4
      generalize endR rk = E at *
      generalize mayB kI acc = p at *
      have hout : rk.err ≠ 0 ∨ (rk.err = 0 ∧ j = N) := hwhy
      clear hwhy
      have hbb : w.heap.size ≤ b := hwb1
      have hww : w.heap.size ≤ w2.heap.size := by omega
      rcases hout with he | ⟨he, hjN⟩
      · have he1 : (rk.err == 0) = false := by simpa using he
        by_cases hE : E = 0
        · subst hE
          go_wp2_with fail
          refine C3.mono ?_
          rintro e w5 ⟨rfl, hB5⟩
          obtain ⟨t0, t1, t2, t3⟩ := HC0.out w5 hB5
          have C5 := C4 w5 hB5
          have HB5 := Lib.hid hB5
          clear C4 hB5
          cases p with
          | false =>
            go_wp2_with fail
            refine C5.mono ?_
            rintro e w6 ⟨rfl, hB6⟩
            go_wp2_with fail
            go_ret2
            exact ⟨.inr ⟨HN2.out (by trivial), rfl⟩, HB2.out.trans ((HM.out.below1 hbb hww (HB5.out.trans (hB6.mono HB5.out.size))))⟩
          | true =>
            go_wp2_with fail
            refine C5.mono ?_
            rintro e w6 ⟨rfl, hB6⟩
            go_wp2_with fail
            go_ret2
            exact ⟨.inl ⟨acc, _, HY.out (by trivial) (by trivial), rfl, by rw [HACC.out]; exact owns_later (owns_later (Joins.ownsRow_le HRW.out (by omega)) HB5.out) hB6⟩, HB2.out.trans ((HM.out.below1 hbb hww (HB5.out.trans (hB6.mono HB5.out.size))))⟩
        · have hne : (E != 0) = true := by simpa using hE
          go_wp2_with fail
          refine C3.mono ?_
          rintro e w5 ⟨rfl, hB5⟩
          have HB5 := Lib.hid hB5
          clear C4 hB5
          go_wp2_with fail
          go_ret2
          exact ⟨.inr ⟨HN1.out hE, rfl⟩, HB2.out.trans (HM.out.below1 hbb hww HB5.out)⟩
      · rw [he] at *
        subst hjN
        by_cases hE : E = 0
        · subst hE
          go_wp2_with fail
          refine C3.mono ?_
          rintro e w5 ⟨rfl, hB5⟩
          obtain ⟨t0, t1, t2, t3⟩ := HC0.out w5 hB5
          have C5 := C4 w5 hB5
          have HB5 := Lib.hid hB5
          clear C4 hB5
          cases p with
          | false =>
            go_wp2_with fail
            refine C5.mono ?_
            rintro e w6 ⟨rfl, hB6⟩
            go_wp2_with fail
            go_ret2
            exact ⟨.inr ⟨HN2.out (by trivial), rfl⟩, HB2.out.trans ((HM.out.below1 hbb hww (HB5.out.trans (hB6.mono HB5.out.size))))⟩
          | true =>
            go_wp2_with fail
            refine C5.mono ?_
            rintro e w6 ⟨rfl, hB6⟩
            go_wp2_with fail
            go_ret2
            exact ⟨.inl ⟨acc, _, HY.out (by trivial) (by trivial), rfl, by rw [HACC.out]; exact owns_later (owns_later (Joins.ownsRow_le HRW.out (by omega)) HB5.out) hB6⟩, HB2.out.trans ((HM.out.below1 hbb hww (HB5.out.trans (hB6.mono HB5.out.size))))⟩
        · have hne : (E != 0) = true := by simpa using hE
          go_wp2_with fail
          refine C3.mono ?_
          rintro e w5 ⟨rfl, hB5⟩
          have HB5 := Lib.hid hB5
          clear C4 hB5
          go_wp2_with fail
          go_ret2
          exact ⟨.inr ⟨HN1.out hE, rfl⟩, HB2.out.trans (HM.out.below1 hbb hww HB5.out)⟩
theorem inoParses_any (s : ByteArray) (hs : s.size ≤ 281474976710656) (w : World) (hg : GE w) :
    Calls Tryz.prog 23 #[.string s] w fun e w' => Parsed kI inoC 5 64 s.data.toList w e w' := by
  have C1 := inoT_any w
  have C2 := fun w' hg => inoParse_any s hs w' hg
  go_enter Tryz.func23, Tryz.ntmps23
  go_wp2_with fail
  refine C1.mono ?_
  rintro e w1 ⟨rfl, hB1⟩
  go_wp2_with fail
  refine (C2 _ (hg.below hB1)).mono ?_
  rintro e w2 h2
  have h3 := h2.down hB1
  clear h2
  rcases h3 with ⟨⟨l, v, hl, rfl, hrow⟩ | ⟨hno, rfl⟩, hB⟩
  · go_wp2_with fail
    go_ret2
    exact ⟨.inl ⟨l, v, hl, rfl, hrow⟩, hB⟩
  · go_wp2_with fail
    go_ret2
    exact ⟨.inr ⟨hno, rfl⟩, hB⟩
theorem infoEnt : (Tryz.prog.info? 58).map (fun i => (i.zero, i.size, i.bytes)) = some (some (.agg #[.string ⟨#[]⟩, .int .i64 0]), 2, 24) := by kernel_rfl
theorem entC_len (x : Ent) : (entC x).length = 2 := rfl
set_option maxRecDepth 100000 in
set_option maxHeartbeats 4000000 in
theorem entParse_any (s : ByteArray) (hs : s.size ≤ 281474976710656) (w : World) (hg : GE w) :
    Calls Tryz.prog 46 #[tblEnt, .string s] w fun e w' => Parsed kE entC 2 58 s.data.toList w e w' := by
  obtain ⟨pn, hpn⟩ : ∃ pn, numR ⟨s.data.toList, 0⟩ 4096 = pn := ⟨_, rfl⟩
  have hn4 : pn.1 ≤ 4096 := by have := numR_upto ⟨s.data.toList, 0⟩ 4096 (by omega); rw [hpn] at this; omega
  have hpr : pn.2.rest.length ≤ 281474976710656 := by rw [← hpn]; exact Nat.le_trans (numR_rest _ _) (by rw [len_of]; exact hs)
  obtain ⟨P, hP⟩ : ∃ P, parsed (entRd 65535) s.data.toList = P := ⟨_, rfl⟩
  have HP := Lib.hid (show readN (entRd 65535) pn.1 pn.2 [] = P by rw [← hP, ← hpn]; rfl)
  have HD := Lib.hid (show endR P.2 = 0 → May kE P.1 → IsL kE s.data.toList P.1 by rw [← hP]; exact isL_self (readsE (by omega)))
  have HND := Lib.hid (show ¬ (endR P.2 = 0 ∧ May kE P.1) → ∀ l, ¬ IsL kE s.data.toList l by rw [← hP]; exact isL_none (readsE (by omega)))
  clear hP
  obtain ⟨w0, hw0⟩ : ∃ w0, w.alloc tblOEnt = w0 := ⟨_, rfl⟩
  have HB0 := Lib.hid (show Below w.heap.size w w0 by rw [← hw0]; exact (Below.refl _ w).alloc (Nat.le_refl _) _)
  have HO := Lib.hid (show w0.heap[w.heap.size]? = some tblOEnt by rw [← hw0]; exact heap_alloc_new w _)
  have hgl := hg.lt
  have hg0 := hg.below HB0.out
  unfold tblOEnt at hw0
  unfold tblEnt
  have C0 := rnew_any s w0
  go_enter Tryz.func46, Tryz.ntmps46
  go_wp2_with fail
  refine C0.mono ?_
  rintro e w2 ⟨b, rfl, hb1, hb2, hB2⟩
  have hb : w2.heap[b]? = some (RO ⟨s.data.toList, 0⟩) := hb2
  have hbl := lt_of_heap hb
  have hww0 : w.heap.size < w0.heap.size := lt_of_heap HO.out
  have hwb : w.heap.size ≠ b := by omega
  have hwb1 : w.heap.size ≤ b := by omega
  have hgb : 0 ≠ b := by omega
  have hb0 : b ≠ 0 := fun e => hgb e.symm
  have hg2 : GE w2 := hg0.below hB2
  have HO2 := Lib.hid ((hB2.block _ hww0).trans HO.out)
  have HB2 := Lib.hid (HB0.out.trans (hB2.mono HB0.out.size))
  have C1 := qnum_any b hb0 ⟨s.data.toList, 0⟩ 4096 (by rw [len_of]; exact hs) w2 hg2 hb
  rw [hpn] at C1
  obtain ⟨N, r0⟩ := pn
  simp only at hn4 hpr C1
  have hw2 : w.heap.size < w2.heap.size := Nat.lt_of_lt_of_le hww0 hB2.size
  clear hb2 hB2 C0 hpn hw0 hb1 hg0 hww0
  go_wp2_with fail
  refine C1.mono ?_
  rintro e w3 ⟨rfl, hM3⟩
  have HM3 := Lib.hid hM3
  clear hM3 C1 hb
  unfold numV
  obtain ⟨i0, hi, hz0, hz1, hz2⟩ := info_parts infoEnt
  go_wp2_with fail
  go_loopw [8, 9] (fun x v wr => ∃ (j : Nat) (acc : List Ent) (rk : Rd), j ≤ N ∧ acc.length = j ∧ x = .int .i64 rk.err ∧ rk.rest.length ≤ 281474976710656 ∧ readN (entRd 65535) (N - j) rk acc = P ∧ wr.ownsRow w2.heap.size 58 2 v j (acc.flatMap entC) ∧ Moved b (RO rk) w2 wr ∧ ∀ q ∈ acc, q.name.size ≤ 65536) (fun _ v _ => N - (lenOf v))
  case atStart => exact ⟨0, [], r0, Nat.zero_le _, rfl, rfl, hpr, HP.out, World.ownsRow_nil _ _ _ _, HM3.out, fun q hq => absurd hq (by simp)⟩
  case round =>
    obtain ⟨j, acc, rk, hj, hacc, rfl, hrk, hread, hrow, hM, hsm⟩ := hrel
    have HACC := Lib.hid hacc
    have HRD := Lib.hid hread
    have HRW := Lib.hid hrow
    have HM := Lib.hid hM
    have HSM := Lib.hid hsm
    obtain ⟨av, cv, rfl⟩ := row_shape hrow
    clear hacc hread hrow hM HM3 HP hsm
    have hstop : (rk.err = 0 ∧ j < N) ∨ (readN (entRd 65535) (N - j) rk acc = (acc, rk) ∧ (rk.err ≠ 0 ∨ (rk.err = 0 ∧ j = N))) := readN_stop hj
    rcases hstop with ⟨he, hlt⟩ | ⟨hstop, hwhy⟩
    · have hji : (j : Int) < (N : Int) := by omega
      have HST := Lib.hid (readN_step (entRd 65535) he hlt acc)
      have hwr := HM.out.size
      have hrest := entRd_rest rk
      have HNS := Lib.hid (entRd_name rk)
      have C1 := fun w => entRd_any b hb0 rk hrk w
      obtain ⟨q, hq⟩ : ∃ q, entRd 65535 rk = q := ⟨_, rfl⟩
      rw [hq] at C1 hrest HST HNS
      obtain ⟨y, r1⟩ := q
      simp only at C1 hrest HST HNS
      have hr1 : r1.rest.length ≤ 281474976710656 := Nat.le_trans hrest hrk
      clear hq hrest
      unfold entV at C1
      obtain ⟨u0, hu0⟩ : ∃ u, wr.alloc (.cells #[.string ⟨#[]⟩, .int .i64 0] 58) = u := ⟨_, rfl⟩
      have HX0 := Lib.hid (show u0.heap[wr.heap.size]? = some (.cells #[.string ⟨#[]⟩, .int .i64 0] 58 (0, 0)) by rw [← hu0]; exact heap_alloc_new wr _)
      have HU0 := Lib.hid (show Below wr.heap.size wr u0 by rw [← hu0]; exact (Below.refl _ wr).alloc (Nat.le_refl _) _)
      have HMU := Lib.hid (HM.out.and HU0.out)
      have hfn : u0.cell? ⟨w.heap.size, 1, none⟩ = some (.func (.func 61) #[] #[]) := by have e := HMU.out.other HO2.out hwb; simp [World.cell?, e, tblOEnt]
      rw [he]
      go_wp2_with fail
      refine (C1 _ (hg2.moved HMU.out hb0) HMU.out.here).mono ?_
      rintro e w4 ⟨rfl, hM4⟩
      have hBn : wr.heap.size ≠ b := by have := lt_of_heap HM.out.here; omega
      have hx := hM4.other HX0.out hBn
      have hM5 := HMU.out.trans hM4
      have z0 : w4.cell? ⟨wr.heap.size, 0, none⟩ = some (.string ⟨#[]⟩) := by simp [World.cell?, hx]
      have z1 : w4.cell? ⟨wr.heap.size, 1, none⟩ = some (.int .i64 0) := by simp [World.cell?, hx]
      have f0 : w4.frozen? ⟨wr.heap.size, 0, none⟩ = false := by simp [World.frozen?, hx]
      have f1 : w4.frozen? ⟨wr.heap.size, 1, none⟩ = false := by simp [World.frozen?, hx]
      obtain ⟨u1, hu1⟩ : ∃ u, ((w4.setCell ⟨wr.heap.size, 0, none⟩ (.string y.name)).setCell ⟨wr.heap.size, 1, none⟩ (.int .i64 y.num)) = u := ⟨_, rfl⟩
      have HX := Lib.hid (show u1.heap[wr.heap.size]? = some (.cells #[.string y.name, .int .i64 y.num] 58 (0, 0)) by rw [← hu1]; exact (heap_set (heap_set hx (i := 0) (.string y.name)) (i := 1) (.int .i64 y.num)))
      have HM6 := Lib.hid (show Moved b (RO r1) w2 u1 by rw [← hu1]; exact ((hM5.setNew hwr hbl (i := 0) (.string y.name)).setNew hwr hbl (i := 1) (.int .i64 y.num)))
      have hx1 := HX.out
      have d0 : u1.cell? ⟨wr.heap.size, 0, none⟩ = some (.string y.name) := by simp [World.cell?, hx1]
      have d1 : u1.cell? ⟨wr.heap.size, 1, none⟩ = some (.int .i64 y.num) := by simp [World.cell?, hx1]
      have hrow4 : w4.ownsRow w2.heap.size 58 2 (.slice av j cv) j (acc.flatMap entC) := owns_moved' (owns_later HRW.out HU0.out) hM4 hbl
      have hrow2 : u1.ownsRow w2.heap.size 58 2 (.slice av j cv) j (acc.flatMap entC) := by
        rw [← hu1]
        have hne : ∀ g, Value.ownBlock (.slice av j cv) = some g → g ≠ wr.heap.size := fun g hg2 => by have := (HRW.out.lt g hg2).2; omega
        exact (owns_set (owns_set hrow4 hne (i := 0) (.string y.name)) hne (i := 1) (.int .i64 y.num))
      have hsz : w2.heap.size ≤ u1.heap.size := HM6.out.size
      clear hx hx1 hM4 hM5 hrow4 C1
      go_wp2_with (at_builtin; refine wpList_append_own _ rfl _ _ 59 rfl w2.heap.size 58 i0 (.agg #[.string ⟨#[]⟩, .int .i64 0]) 2 24 Tryz.underlying59 hi hz0 hz1 hz2 rfl (by decide) _ _ _ rfl (hrow2.alloc _) ⟨u1.heap.size, 0, none⟩ 1 1 [.string y.name, .int .i64 y.num] rfl rfl (cells_new u1 [.string y.name, .int .i64 y.num] _) (by simp [Value.oneCell']) (by unfold maxLen; omega) (by omega) (by simp; omega) ?_; intro v' w5 hown' hgrow _; have hB4 : Below w2.heap.size u1 w5 := ((Below.refl _ u1).alloc hsz _).grown hgrow (by simp; omega) (fun j ej => (hrow2.lt j ej).1); have HM7 := Lib.hid (HM6.out.andB hbl hB4); have HO4 := Lib.hid hown'; obtain ⟨av2, cv2, rfl⟩ := row_shape hown'; clear hown' hgrow hB4)
      go_roundw
      case rel => exact ⟨j + 1, acc ++ [y], r1, by omega, by simp [HACC.out], rfl, hr1, by rw [← HST.out]; exact HRD.out, by rw [List.flatMap_append, List.flatMap_singleton]; exact HO4.out, HM7.out, fun q hq => (List.mem_append.1 hq).elim (fun h => HSM.out q h) (fun h => by rw [List.mem_singleton.1 h]; exact HNS.out)⟩
      case measure => simp [lenOf]; omega
    · have HPE := Lib.hid (show (acc, rk) = P from hstop.symm.trans HRD.out)
      have hg3 := hg2.moved HM.out hb0
      have C3 := qend_any b rk wr hg3 HM.out.here
      have C4 := fun w' (hB : Below wr.heap.size wr w') => entMay_any (.slice av j cv) acc (by rw [HACC.out]; omega) (fun q hq => Nat.le_trans (HSM.out q hq) (by decide)) w' ((lst_of_owns entC_len (by decide) (by rw [HACC.out]; exact HRW.out)).later hB)
      have hc0 : ∀ W, Below wr.heap.size wr W → W.cell? ⟨w.heap.size, 0, none⟩ = some (.func (.func 60) #[] #[]) ∧ W.cell? ⟨w.heap.size, 1, none⟩ = some (.func (.func 61) #[] #[]) ∧ W.cell? ⟨w.heap.size, 2, none⟩ = some (.func (.func 62) #[] #[]) ∧ W.cell? ⟨w.heap.size, 3, none⟩ = some (.func (.func 63) #[] #[]) := fun W hW => by
        have e := (hW.block _ (Nat.lt_of_lt_of_le hw2 HM.out.size)).trans (HM.out.other HO2.out hwb)
        exact ⟨by simp [World.cell?, e, tblOEnt], by simp [World.cell?, e, tblOEnt], by simp [World.cell?, e, tblOEnt], by simp [World.cell?, e, tblOEnt]⟩
      have HC0 := Lib.hid hc0
      clear hc0 hstop
      have HY := Lib.hid (show endR rk = 0 → mayB kE acc = true → IsL kE s.data.toList acc from fun h1 h2 => by have := HD.out; rw [← HPE.out] at this; exact this h1 (mayB_iff.1 h2))
      have HN1 := Lib.hid (show endR rk ≠ 0 → ∀ l, ¬ IsL kE s.data.toList l from fun h1 => by have := HND.out; rw [← HPE.out] at this; exact this fun e => h1 e.1)
      have HN2 := Lib.hid (show mayB kE acc = false → ∀ l, ¬ IsL kE s.data.toList l from fun h1 => by have := HND.out; rw [← HPE.out] at this; exact this fun e => absurd (mayB_iff.2 e.2) (by rw [h1]; decide))
      unfold tblEnt at C4
      generalize endR rk = E at *
      generalize mayB kE acc = p at *
      have hout : rk.err ≠ 0 ∨ (rk.err = 0 ∧ j = N) := hwhy
      clear hwhy
      have hbb : w.heap.size ≤ b := hwb1
      have hww : w.heap.size ≤ w2.heap.size := by omega
      rcases hout with he | ⟨he, hjN⟩
      · have he1 : (rk.err == 0) = false := by simpa using he
        by_cases hE : E = 0
        · subst hE
          go_wp2_with fail
          refine C3.mono ?_
          rintro e w5 ⟨rfl, hB5⟩
          obtain ⟨t0, t1, t2, t3⟩ := HC0.out w5 hB5
          have C5 := C4 w5 hB5
          have HB5 := Lib.hid hB5
          clear C4 hB5
          cases p with
          | false =>
            go_wp2_with fail
            refine C5.mono ?_
            rintro e w6 ⟨rfl, hB6⟩
            go_wp2_with fail
            go_ret2
            exact ⟨.inr ⟨HN2.out (by trivial), rfl⟩, HB2.out.trans ((HM.out.below1 hbb hww (HB5.out.trans (hB6.mono HB5.out.size))))⟩
          | true =>
            go_wp2_with fail
            refine C5.mono ?_
            rintro e w6 ⟨rfl, hB6⟩
            go_wp2_with fail
            go_ret2
            exact ⟨.inl ⟨acc, _, HY.out (by trivial) (by trivial), rfl, by rw [HACC.out]; exact owns_later (owns_later (Joins.ownsRow_le HRW.out (by omega)) HB5.out) hB6⟩, HB2.out.trans ((HM.out.below1 hbb hww (HB5.out.trans (hB6.mono HB5.out.size))))⟩
        · have hne : (E != 0) = true := by simpa using hE
          go_wp2_with fail
          refine C3.mono ?_
          rintro e w5 ⟨rfl, hB5⟩
          have HB5 := Lib.hid hB5
          clear C4 hB5
          go_wp2_with fail
          go_ret2
          exact ⟨.inr ⟨HN1.out hE, rfl⟩, HB2.out.trans (HM.out.below1 hbb hww HB5.out)⟩
      · rw [he] at *
        subst hjN
        by_cases hE : E = 0
        · subst hE
          go_wp2_with fail
          refine C3.mono ?_
          rintro e w5 ⟨rfl, hB5⟩
          obtain ⟨t0, t1, t2, t3⟩ := HC0.out w5 hB5
          have C5 := C4 w5 hB5
          have HB5 := Lib.hid hB5
          clear C4 hB5
          cases p with
          | false =>
            go_wp2_with fail
            refine C5.mono ?_
            rintro e w6 ⟨rfl, hB6⟩
            go_wp2_with fail
            go_ret2
            exact ⟨.inr ⟨HN2.out (by trivial), rfl⟩, HB2.out.trans ((HM.out.below1 hbb hww (HB5.out.trans (hB6.mono HB5.out.size))))⟩
          | true =>
            go_wp2_with fail
            refine C5.mono ?_
            rintro e w6 ⟨rfl, hB6⟩
            go_wp2_with fail
            go_ret2
            exact ⟨.inl ⟨acc, _, HY.out (by trivial) (by trivial), rfl, by rw [HACC.out]; exact owns_later (owns_later (Joins.ownsRow_le HRW.out (by omega)) HB5.out) hB6⟩, HB2.out.trans ((HM.out.below1 hbb hww (HB5.out.trans (hB6.mono HB5.out.size))))⟩
        · have hne : (E != 0) = true := by simpa using hE
          go_wp2_with fail
          refine C3.mono ?_
          rintro e w5 ⟨rfl, hB5⟩
          have HB5 := Lib.hid hB5
          clear C4 hB5
          go_wp2_with fail
          go_ret2
          exact ⟨.inr ⟨HN1.out hE, rfl⟩, HB2.out.trans (HM.out.below1 hbb hww HB5.out)⟩
theorem entParses_any (s : ByteArray) (hs : s.size ≤ 281474976710656) (w : World) (hg : GE w) :
    Calls Tryz.prog 21 #[.string s] w fun e w' => Parsed kE entC 2 58 s.data.toList w e w' := by
  have C1 := entT_any w
  have C2 := fun w' hg => entParse_any s hs w' hg
  go_enter Tryz.func21, Tryz.ntmps21
  go_wp2_with fail
  refine C1.mono ?_
  rintro e w1 ⟨rfl, hB1⟩
  go_wp2_with fail
  refine (C2 _ (hg.below hB1)).mono ?_
  rintro e w2 h2
  have h3 := h2.down hB1
  clear h2
  rcases h3 with ⟨⟨l, v, hl, rfl, hrow⟩ | ⟨hno, rfl⟩, hB⟩
  · go_wp2_with fail
    go_ret2
    exact ⟨.inl ⟨l, v, hl, rfl, hrow⟩, hB⟩
  · go_wp2_with fail
    go_ret2
    exact ⟨.inr ⟨hno, rfl⟩, hB⟩
theorem infoSnp : (Tryz.prog.info? 35).map (fun i => (i.zero, i.size, i.bytes)) = some (some (.agg #[.string ⟨#[]⟩, .int .i64 0, .int .i64 0, .int .i64 0, .int .i64 0]), 5, 48) := by kernel_rfl
theorem snpC_len (x : Snp) : (snpC x).length = 5 := rfl
set_option maxRecDepth 100000 in
set_option maxHeartbeats 4000000 in
theorem snpParse_any (s : ByteArray) (hs : s.size ≤ 281474976710656) (w : World) (hg : GE w) :
    Calls Tryz.prog 16 #[tblSnp, .string s] w fun e w' => Parsed kS snpC 5 35 s.data.toList w e w' := by
  obtain ⟨pn, hpn⟩ : ∃ pn, numR ⟨s.data.toList, 0⟩ 4096 = pn := ⟨_, rfl⟩
  have hn4 : pn.1 ≤ 4096 := by have := numR_upto ⟨s.data.toList, 0⟩ 4096 (by omega); rw [hpn] at this; omega
  have hpr : pn.2.rest.length ≤ 281474976710656 := by rw [← hpn]; exact Nat.le_trans (numR_rest _ _) (by rw [len_of]; exact hs)
  obtain ⟨P, hP⟩ : ∃ P, parsed (snpRd 1099511627776 7 4095 16384) s.data.toList = P := ⟨_, rfl⟩
  have HP := Lib.hid (show readN (snpRd 1099511627776 7 4095 16384) pn.1 pn.2 [] = P by rw [← hP, ← hpn]; rfl)
  have HD := Lib.hid (show endR P.2 = 0 → May kS P.1 → IsL kS s.data.toList P.1 by rw [← hP]; exact isL_self (readsS (by omega) (by omega) (by omega) (by omega)))
  have HND := Lib.hid (show ¬ (endR P.2 = 0 ∧ May kS P.1) → ∀ l, ¬ IsL kS s.data.toList l by rw [← hP]; exact isL_none (readsS (by omega) (by omega) (by omega) (by omega)))
  clear hP
  obtain ⟨w0, hw0⟩ : ∃ w0, w.alloc tblOSnp = w0 := ⟨_, rfl⟩
  have HB0 := Lib.hid (show Below w.heap.size w w0 by rw [← hw0]; exact (Below.refl _ w).alloc (Nat.le_refl _) _)
  have HO := Lib.hid (show w0.heap[w.heap.size]? = some tblOSnp by rw [← hw0]; exact heap_alloc_new w _)
  have hgl := hg.lt
  have hg0 := hg.below HB0.out
  unfold tblOSnp at hw0
  unfold tblSnp
  have C0 := rnew_any s w0
  go_enter Tryz.func16, Tryz.ntmps16
  go_wp2_with fail
  refine C0.mono ?_
  rintro e w2 ⟨b, rfl, hb1, hb2, hB2⟩
  have hb : w2.heap[b]? = some (RO ⟨s.data.toList, 0⟩) := hb2
  have hbl := lt_of_heap hb
  have hww0 : w.heap.size < w0.heap.size := lt_of_heap HO.out
  have hwb : w.heap.size ≠ b := by omega
  have hwb1 : w.heap.size ≤ b := by omega
  have hgb : 0 ≠ b := by omega
  have hb0 : b ≠ 0 := fun e => hgb e.symm
  have hg2 : GE w2 := hg0.below hB2
  have HO2 := Lib.hid ((hB2.block _ hww0).trans HO.out)
  have HB2 := Lib.hid (HB0.out.trans (hB2.mono HB0.out.size))
  have C1 := qnum_any b hb0 ⟨s.data.toList, 0⟩ 4096 (by rw [len_of]; exact hs) w2 hg2 hb
  rw [hpn] at C1
  obtain ⟨N, r0⟩ := pn
  simp only at hn4 hpr C1
  have hw2 : w.heap.size < w2.heap.size := Nat.lt_of_lt_of_le hww0 hB2.size
  clear hb2 hB2 C0 hpn hw0 hb1 hg0 hww0
  go_wp2_with fail
  refine C1.mono ?_
  rintro e w3 ⟨rfl, hM3⟩
  have HM3 := Lib.hid hM3
  clear hM3 C1 hb
  unfold numV
  obtain ⟨i0, hi, hz0, hz1, hz2⟩ := info_parts infoSnp
  go_wp2_with fail
  go_loopw [8, 9] (fun x v wr => ∃ (j : Nat) (acc : List Snp) (rk : Rd), j ≤ N ∧ acc.length = j ∧ x = .int .i64 rk.err ∧ rk.rest.length ≤ 281474976710656 ∧ readN (snpRd 1099511627776 7 4095 16384) (N - j) rk acc = P ∧ wr.ownsRow w2.heap.size 35 5 v j (acc.flatMap snpC) ∧ Moved b (RO rk) w2 wr ∧ ∀ q ∈ acc, q.name.size ≤ 65536) (fun _ v _ => N - (lenOf v))
  case atStart => exact ⟨0, [], r0, Nat.zero_le _, rfl, rfl, hpr, HP.out, World.ownsRow_nil _ _ _ _, HM3.out, fun q hq => absurd hq (by simp)⟩
  case round =>
    obtain ⟨j, acc, rk, hj, hacc, rfl, hrk, hread, hrow, hM, hsm⟩ := hrel
    have HACC := Lib.hid hacc
    have HRD := Lib.hid hread
    have HRW := Lib.hid hrow
    have HM := Lib.hid hM
    have HSM := Lib.hid hsm
    obtain ⟨av, cv, rfl⟩ := row_shape hrow
    clear hacc hread hrow hM HM3 HP hsm
    have hstop : (rk.err = 0 ∧ j < N) ∨ (readN (snpRd 1099511627776 7 4095 16384) (N - j) rk acc = (acc, rk) ∧ (rk.err ≠ 0 ∨ (rk.err = 0 ∧ j = N))) := readN_stop hj
    rcases hstop with ⟨he, hlt⟩ | ⟨hstop, hwhy⟩
    · have hji : (j : Int) < (N : Int) := by omega
      have HST := Lib.hid (readN_step (snpRd 1099511627776 7 4095 16384) he hlt acc)
      have hwr := HM.out.size
      have hrest := snpRd_rest rk
      have HNS := Lib.hid (snpRd_name rk)
      have C1 := fun w => snpRd_any b hb0 rk hrk w
      obtain ⟨q, hq⟩ : ∃ q, snpRd 1099511627776 7 4095 16384 rk = q := ⟨_, rfl⟩
      rw [hq] at C1 hrest HST HNS
      obtain ⟨y, r1⟩ := q
      simp only at C1 hrest HST HNS
      have hr1 : r1.rest.length ≤ 281474976710656 := Nat.le_trans hrest hrk
      clear hq hrest
      unfold snpV at C1
      obtain ⟨u0, hu0⟩ : ∃ u, wr.alloc (.cells #[.string ⟨#[]⟩, .int .i64 0, .int .i64 0, .int .i64 0, .int .i64 0] 35) = u := ⟨_, rfl⟩
      have HX0 := Lib.hid (show u0.heap[wr.heap.size]? = some (.cells #[.string ⟨#[]⟩, .int .i64 0, .int .i64 0, .int .i64 0, .int .i64 0] 35 (0, 0)) by rw [← hu0]; exact heap_alloc_new wr _)
      have HU0 := Lib.hid (show Below wr.heap.size wr u0 by rw [← hu0]; exact (Below.refl _ wr).alloc (Nat.le_refl _) _)
      have HMU := Lib.hid (HM.out.and HU0.out)
      have hfn : u0.cell? ⟨w.heap.size, 1, none⟩ = some (.func (.func 31) #[] #[]) := by have e := HMU.out.other HO2.out hwb; simp [World.cell?, e, tblOSnp]
      rw [he]
      go_wp2_with fail
      refine (C1 _ (hg2.moved HMU.out hb0) HMU.out.here).mono ?_
      rintro e w4 ⟨rfl, hM4⟩
      have hBn : wr.heap.size ≠ b := by have := lt_of_heap HM.out.here; omega
      have hx := hM4.other HX0.out hBn
      have hM5 := HMU.out.trans hM4
      have z0 : w4.cell? ⟨wr.heap.size, 0, none⟩ = some (.string ⟨#[]⟩) := by simp [World.cell?, hx]
      have z1 : w4.cell? ⟨wr.heap.size, 1, none⟩ = some (.int .i64 0) := by simp [World.cell?, hx]
      have z2 : w4.cell? ⟨wr.heap.size, 2, none⟩ = some (.int .i64 0) := by simp [World.cell?, hx]
      have z3 : w4.cell? ⟨wr.heap.size, 3, none⟩ = some (.int .i64 0) := by simp [World.cell?, hx]
      have z4 : w4.cell? ⟨wr.heap.size, 4, none⟩ = some (.int .i64 0) := by simp [World.cell?, hx]
      have f0 : w4.frozen? ⟨wr.heap.size, 0, none⟩ = false := by simp [World.frozen?, hx]
      have f1 : w4.frozen? ⟨wr.heap.size, 1, none⟩ = false := by simp [World.frozen?, hx]
      have f2 : w4.frozen? ⟨wr.heap.size, 2, none⟩ = false := by simp [World.frozen?, hx]
      have f3 : w4.frozen? ⟨wr.heap.size, 3, none⟩ = false := by simp [World.frozen?, hx]
      have f4 : w4.frozen? ⟨wr.heap.size, 4, none⟩ = false := by simp [World.frozen?, hx]
      obtain ⟨u1, hu1⟩ : ∃ u, (((((w4.setCell ⟨wr.heap.size, 0, none⟩ (.string y.name)).setCell ⟨wr.heap.size, 1, none⟩ (.int .i64 y.id)).setCell ⟨wr.heap.size, 2, none⟩ (.int .i64 y.plane)).setCell ⟨wr.heap.size, 3, none⟩ (.int .i64 y.root)).setCell ⟨wr.heap.size, 4, none⟩ (.int .i64 y.size)) = u := ⟨_, rfl⟩
      have HX := Lib.hid (show u1.heap[wr.heap.size]? = some (.cells #[.string y.name, .int .i64 y.id, .int .i64 y.plane, .int .i64 y.root, .int .i64 y.size] 35 (0, 0)) by rw [← hu1]; exact (heap_set (heap_set (heap_set (heap_set (heap_set hx (i := 0) (.string y.name)) (i := 1) (.int .i64 y.id)) (i := 2) (.int .i64 y.plane)) (i := 3) (.int .i64 y.root)) (i := 4) (.int .i64 y.size)))
      have HM6 := Lib.hid (show Moved b (RO r1) w2 u1 by rw [← hu1]; exact (((((hM5.setNew hwr hbl (i := 0) (.string y.name)).setNew hwr hbl (i := 1) (.int .i64 y.id)).setNew hwr hbl (i := 2) (.int .i64 y.plane)).setNew hwr hbl (i := 3) (.int .i64 y.root)).setNew hwr hbl (i := 4) (.int .i64 y.size)))
      have hx1 := HX.out
      have d0 : u1.cell? ⟨wr.heap.size, 0, none⟩ = some (.string y.name) := by simp [World.cell?, hx1]
      have d1 : u1.cell? ⟨wr.heap.size, 1, none⟩ = some (.int .i64 y.id) := by simp [World.cell?, hx1]
      have d2 : u1.cell? ⟨wr.heap.size, 2, none⟩ = some (.int .i64 y.plane) := by simp [World.cell?, hx1]
      have d3 : u1.cell? ⟨wr.heap.size, 3, none⟩ = some (.int .i64 y.root) := by simp [World.cell?, hx1]
      have d4 : u1.cell? ⟨wr.heap.size, 4, none⟩ = some (.int .i64 y.size) := by simp [World.cell?, hx1]
      have hrow4 : w4.ownsRow w2.heap.size 35 5 (.slice av j cv) j (acc.flatMap snpC) := owns_moved' (owns_later HRW.out HU0.out) hM4 hbl
      have hrow2 : u1.ownsRow w2.heap.size 35 5 (.slice av j cv) j (acc.flatMap snpC) := by
        rw [← hu1]
        have hne : ∀ g, Value.ownBlock (.slice av j cv) = some g → g ≠ wr.heap.size := fun g hg2 => by have := (HRW.out.lt g hg2).2; omega
        exact (owns_set (owns_set (owns_set (owns_set (owns_set hrow4 hne (i := 0) (.string y.name)) hne (i := 1) (.int .i64 y.id)) hne (i := 2) (.int .i64 y.plane)) hne (i := 3) (.int .i64 y.root)) hne (i := 4) (.int .i64 y.size))
      have hsz : w2.heap.size ≤ u1.heap.size := HM6.out.size
      clear hx hx1 hM4 hM5 hrow4 C1
      go_wp2_with (at_builtin; refine wpList_append_own _ rfl _ _ 22 rfl w2.heap.size 35 i0 (.agg #[.string ⟨#[]⟩, .int .i64 0, .int .i64 0, .int .i64 0, .int .i64 0]) 5 48 Tryz.underlying22 hi hz0 hz1 hz2 rfl (by decide) _ _ _ rfl (hrow2.alloc _) ⟨u1.heap.size, 0, none⟩ 1 1 [.string y.name, .int .i64 y.id, .int .i64 y.plane, .int .i64 y.root, .int .i64 y.size] rfl rfl (cells_new u1 [.string y.name, .int .i64 y.id, .int .i64 y.plane, .int .i64 y.root, .int .i64 y.size] _) (by simp [Value.oneCell']) (by unfold maxLen; omega) (by omega) (by simp; omega) ?_; intro v' w5 hown' hgrow _; have hB4 : Below w2.heap.size u1 w5 := ((Below.refl _ u1).alloc hsz _).grown hgrow (by simp; omega) (fun j ej => (hrow2.lt j ej).1); have HM7 := Lib.hid (HM6.out.andB hbl hB4); have HO4 := Lib.hid hown'; obtain ⟨av2, cv2, rfl⟩ := row_shape hown'; clear hown' hgrow hB4)
      go_roundw
      case rel => exact ⟨j + 1, acc ++ [y], r1, by omega, by simp [HACC.out], rfl, hr1, by rw [← HST.out]; exact HRD.out, by rw [List.flatMap_append, List.flatMap_singleton]; exact HO4.out, HM7.out, fun q hq => (List.mem_append.1 hq).elim (fun h => HSM.out q h) (fun h => by rw [List.mem_singleton.1 h]; exact HNS.out)⟩
      case measure => simp [lenOf]; omega
    · have HPE := Lib.hid (show (acc, rk) = P from hstop.symm.trans HRD.out)
      have hg3 := hg2.moved HM.out hb0
      have C3 := qend_any b rk wr hg3 HM.out.here
      have C4 := fun w' (hB : Below wr.heap.size wr w') => snpMay_any (.slice av j cv) acc (by rw [HACC.out]; omega) (fun q hq => Nat.le_trans (HSM.out q hq) (by decide)) w' ((lst_of_owns snpC_len (by decide) (by rw [HACC.out]; exact HRW.out)).later hB)
      have hc0 : ∀ W, Below wr.heap.size wr W → W.cell? ⟨w.heap.size, 0, none⟩ = some (.func (.func 29) #[] #[]) ∧ W.cell? ⟨w.heap.size, 1, none⟩ = some (.func (.func 31) #[] #[]) ∧ W.cell? ⟨w.heap.size, 2, none⟩ = some (.func (.func 35) #[] #[]) ∧ W.cell? ⟨w.heap.size, 3, none⟩ = some (.func (.func 38) #[] #[]) := fun W hW => by
        have e := (hW.block _ (Nat.lt_of_lt_of_le hw2 HM.out.size)).trans (HM.out.other HO2.out hwb)
        exact ⟨by simp [World.cell?, e, tblOSnp], by simp [World.cell?, e, tblOSnp], by simp [World.cell?, e, tblOSnp], by simp [World.cell?, e, tblOSnp]⟩
      have HC0 := Lib.hid hc0
      clear hc0 hstop
      have HY := Lib.hid (show endR rk = 0 → mayB kS acc = true → IsL kS s.data.toList acc from fun h1 h2 => by have := HD.out; rw [← HPE.out] at this; exact this h1 (mayB_iff.1 h2))
      have HN1 := Lib.hid (show endR rk ≠ 0 → ∀ l, ¬ IsL kS s.data.toList l from fun h1 => by have := HND.out; rw [← HPE.out] at this; exact this fun e => h1 e.1)
      have HN2 := Lib.hid (show mayB kS acc = false → ∀ l, ¬ IsL kS s.data.toList l from fun h1 => by have := HND.out; rw [← HPE.out] at this; exact this fun e => absurd (mayB_iff.2 e.2) (by rw [h1]; decide))
      unfold tblSnp at C4
      generalize endR rk = E at *
      generalize mayB kS acc = p at *
      have hout : rk.err ≠ 0 ∨ (rk.err = 0 ∧ j = N) := hwhy
      clear hwhy
      have hbb : w.heap.size ≤ b := hwb1
      have hww : w.heap.size ≤ w2.heap.size := by omega
      rcases hout with he | ⟨he, hjN⟩
      · have he1 : (rk.err == 0) = false := by simpa using he
        by_cases hE : E = 0
        · subst hE
          go_wp2_with fail
          refine C3.mono ?_
          rintro e w5 ⟨rfl, hB5⟩
          obtain ⟨t0, t1, t2, t3⟩ := HC0.out w5 hB5
          have C5 := C4 w5 hB5
          have HB5 := Lib.hid hB5
          clear C4 hB5
          cases p with
          | false =>
            go_wp2_with fail
            refine C5.mono ?_
            rintro e w6 ⟨rfl, hB6⟩
            go_wp2_with fail
            go_ret2
            exact ⟨.inr ⟨HN2.out (by trivial), rfl⟩, HB2.out.trans ((HM.out.below1 hbb hww (HB5.out.trans (hB6.mono HB5.out.size))))⟩
          | true =>
            go_wp2_with fail
            refine C5.mono ?_
            rintro e w6 ⟨rfl, hB6⟩
            go_wp2_with fail
            go_ret2
            exact ⟨.inl ⟨acc, _, HY.out (by trivial) (by trivial), rfl, by rw [HACC.out]; exact owns_later (owns_later (Joins.ownsRow_le HRW.out (by omega)) HB5.out) hB6⟩, HB2.out.trans ((HM.out.below1 hbb hww (HB5.out.trans (hB6.mono HB5.out.size))))⟩
        · have hne : (E != 0) = true := by simpa using hE
          go_wp2_with fail
          refine C3.mono ?_
          rintro e w5 ⟨rfl, hB5⟩
          have HB5 := Lib.hid hB5
          clear C4 hB5
          go_wp2_with fail
          go_ret2
          exact ⟨.inr ⟨HN1.out hE, rfl⟩, HB2.out.trans (HM.out.below1 hbb hww HB5.out)⟩
      · rw [he] at *
        subst hjN
        by_cases hE : E = 0
        · subst hE
          go_wp2_with fail
          refine C3.mono ?_
          rintro e w5 ⟨rfl, hB5⟩
          obtain ⟨t0, t1, t2, t3⟩ := HC0.out w5 hB5
          have C5 := C4 w5 hB5
          have HB5 := Lib.hid hB5
          clear C4 hB5
          cases p with
          | false =>
            go_wp2_with fail
            refine C5.mono ?_
            rintro e w6 ⟨rfl, hB6⟩
            go_wp2_with fail
            go_ret2
            exact ⟨.inr ⟨HN2.out (by trivial), rfl⟩, HB2.out.trans ((HM.out.below1 hbb hww (HB5.out.trans (hB6.mono HB5.out.size))))⟩
          | true =>
            go_wp2_with fail
            refine C5.mono ?_
            rintro e w6 ⟨rfl, hB6⟩
            go_wp2_with fail
            go_ret2
            exact ⟨.inl ⟨acc, _, HY.out (by trivial) (by trivial), rfl, by rw [HACC.out]; exact owns_later (owns_later (Joins.ownsRow_le HRW.out (by omega)) HB5.out) hB6⟩, HB2.out.trans ((HM.out.below1 hbb hww (HB5.out.trans (hB6.mono HB5.out.size))))⟩
        · have hne : (E != 0) = true := by simpa using hE
          go_wp2_with fail
          refine C3.mono ?_
          rintro e w5 ⟨rfl, hB5⟩
          have HB5 := Lib.hid hB5
          clear C4 hB5
          go_wp2_with fail
          go_ret2
          exact ⟨.inr ⟨HN1.out hE, rfl⟩, HB2.out.trans (HM.out.below1 hbb hww HB5.out)⟩
theorem snpParses_any (s : ByteArray) (hs : s.size ≤ 281474976710656) (w : World) (hg : GE w) :
    Calls Tryz.prog 6 #[.string s] w fun e w' => Parsed kS snpC 5 35 s.data.toList w e w' := by
  have C1 := snpT_any w
  have C2 := fun w' hg => snpParse_any s hs w' hg
  go_enter Tryz.func6, Tryz.ntmps6
  go_wp2_with fail
  refine C1.mono ?_
  rintro e w1 ⟨rfl, hB1⟩
  go_wp2_with fail
  refine (C2 _ (hg.below hB1)).mono ?_
  rintro e w2 h2
  have h3 := h2.down hB1
  clear h2
  rcases h3 with ⟨⟨l, v, hl, rfl, hrow⟩ | ⟨hno, rfl⟩, hB⟩
  · go_wp2_with fail
    go_ret2
    exact ⟨.inl ⟨l, v, hl, rfl, hrow⟩, hB⟩
  · go_wp2_with fail
    go_ret2
    exact ⟨.inr ⟨hno, rfl⟩, hB⟩
end Go.Proofs.YtffebghkmobeoaaGreatDoor

