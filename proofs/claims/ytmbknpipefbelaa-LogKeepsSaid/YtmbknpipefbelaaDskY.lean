/-
  The reference's disk beside the same plain data: may, isBad, step, Arm, Revive, Image.
-/
import Derived.Test.YtmbknpipefbelaaDskX
namespace Go.Proofs.Ytmbknpipefbelaa
open Go.RowKit Go Go.Maps SM

theorem img_snoc' (l : List ByteArray) (x : ByteArray) : img (l ++ [x]) = img l ++ x := by
  apply ByteArray.ext
  apply Array.toList_inj.1
  simp [img, flat_append, flat_cons, flat_nil, ByteArray.data_append]
def looseCells (l : List (Int × ByteArray)) : List Value := l.flatMap fun q => [.int .i64 q.1, .string q.2]
theorem looseCells_length (l : List (Int × ByteArray)) : (looseCells l).length = l.length * 2 := by
  induction l with
  | nil => rfl
  | cons q r ih =>
    have e : looseCells (q :: r) = [.int .i64 q.1, .string q.2] ++ looseCells r := rfl
    rw [e, List.length_append, ih, List.length_cons, List.length_cons, List.length_cons, List.length_nil]
    omega
theorem looseCells_at : ∀ (l : List (Int × ByteArray)) (i : Nat) (h : i < l.length), (looseCells l)[i * 2]? = some (.int .i64 l[i].1) ∧ (looseCells l)[i * 2 + 1]? = some (.string l[i].2)
  | [], _, h => by simp at h
  | q :: r, 0, _ => by simp [looseCells]
  | q :: r, i + 1, h => by
    have := looseCells_at r i (by simpa using h)
    have e : looseCells (q :: r) = [.int .i64 q.1, .string q.2] ++ looseCells r := rfl
    rw [e, show (i + 1) * 2 = i * 2 + 2 by omega, show i * 2 + 2 + 1 = (i * 2 + 1) + 2 by omega]
    simpa using this
theorem looseCells_append (a b : List (Int × ByteArray)) : looseCells (a ++ b) = looseCells a ++ looseCells b := by simp [looseCells]
theorem looseCells_one (l : List (Int × ByteArray)) : ∀ u ∈ looseCells l, u.oneCell' = true := by
  intro u hu
  simp only [looseCells, List.mem_flatMap] at hu
  obtain ⟨q, _, hq⟩ := hu
  simp at hq
  rcases hq with rfl | rfl <;> rfl

/-- the reference's disk: its three rows, each of a kind of its own -/
structure RefAt (r base : Nat) (s : DS) (zs : List Int) (v0 v1 v2 : Value) (kp : ByteArray) (w : World) : Prop where
  obj : w.heap[r]? = some (RO v0 v1 v2 s.made s.armed kp s.dead)
  st : w.ownsRow base 9 1 v0 s.stay.length (strVals s.stay)
  lo : w.ownsRow base 99 2 v1 s.loose.length (looseCells s.loose)
  ba : w.ownsRow base 3 1 v2 zs.length (intVals zs)
  bads : ∀ k, decide (k ∈ zs) = s.bad k
  few : zs.length ≤ 1099511627776
  keep : s.armed ≠ 0 → kp = s.keep
  kple : kp.size ≤ 140737488355328
  low : base ≤ r
section
variable {r base : Nat} {s : DS} {zs : List Int} {v0 v1 v2 : Value} {kp : ByteArray} {w w' : World}
theorem RefAt.below (h : RefAt r base s zs v0 v1 v2 kp w) (hB : Below w.heap.size w w') : RefAt r base s zs v0 v1 v2 kp w' :=
  ⟨keeps_of hB h.obj, owns_below h.st hB, owns_below h.lo hB, owns_below h.ba hB, h.bads, h.few, h.keep, h.kple, h.low⟩
theorem RefAt.stay {F : Nat → Prop} (h : RefAt r base s zs v0 v1 v2 kp w) (k : Stir F w w') (hn : ∀ i C t f, w.heap[i]? = some (.cells C t f) → t ≠ 68 → t ≠ 5 → ¬ F i) : RefAt r base s zs v0 v1 v2 kp w' :=
  ⟨k.keep h.obj (hn _ _ _ _ h.obj (by decide) (by decide)), owns_stay h.st k (fun i hi => by obtain ⟨C, hC⟩ := owns_block h.st hi; exact hn _ _ _ _ hC (by decide) (by decide)), owns_stay h.lo k (fun i hi => by obtain ⟨C, hC⟩ := owns_block h.lo hi; exact hn _ _ _ _ hC (by decide) (by decide)),
    owns_stay h.ba k (fun i hi => by obtain ⟨C, hC⟩ := owns_block h.ba hi; exact hn _ _ _ _ hC (by decide) (by decide)), h.bads, h.few, h.keep, h.kple, h.low⟩
/-- the reference, while the disk does something -/
theorem RefAt.disk {b g m : Nat} {t : DS} (h : RefAt r base s zs v0 v1 v2 kp w) (hd : DiskAt b g m t w) (k : Stir (Foot b g m) w w') : RefAt r base s zs v0 v1 v2 kp w' :=
  h.stay k (fun _ _ _ _ hC h1 h2 => hd.not_cells hC h1 h2)
theorem RefAt.v0_is (h : RefAt r base s zs v0 v1 v2 kp w) (hk : 1 ≤ s.stay.length) : ∃ q c, v0 = .slice (some ⟨q, 0, none⟩) s.stay.length c ∧ (∃ C, w.heap[q]? = some (.cells C 9 (0, 0))) ∧ ∀ i (_ : i < s.stay.length), w.cell? ⟨q, i, none⟩ = some (.string (s.stay.getD i none0)) := by
  have hst := h.st
  rcases h.st.2 with ⟨_, h0⟩ | ⟨q, c, cur, rfl, _, hg, _⟩
  · omega
  · refine ⟨q, c, rfl, ⟨cur, hg⟩, fun i hi => ?_⟩
    rw [hst.cellAt i (by omega)]
    simp [strVals, hi]
theorem RefAt.v1_cells (h : RefAt r base s zs v0 v1 v2 kp w) {i : Nat} (hi : i < s.loose.length) : ∃ q c, v1 = .slice (some ⟨q, 0, none⟩) s.loose.length c ∧ w.cell? ⟨q, i * 2, none⟩ = some (.int .i64 s.loose[i].1) ∧ w.cell? ⟨q, i * 2 + 1, none⟩ = some (.string s.loose[i].2) := by
  have hlo := h.lo
  rcases h.lo.2 with ⟨_, h0⟩ | ⟨q, c, cur, rfl, _, hg, _⟩
  · omega
  · refine ⟨q, c, rfl, ?_, ?_⟩
    · rw [hlo.cellAt _ (by omega)]; exact (looseCells_at _ i hi).1
    · rw [hlo.cellAt _ (by omega)]; exact (looseCells_at _ i hi).2
theorem RefAt.v2_cells (h : RefAt r base s zs v0 v1 v2 kp w) {i : Nat} (hi : i < zs.length) : ∃ q c, v2 = .slice (some ⟨q, 0, none⟩) zs.length c ∧ w.cell? ⟨q, i, none⟩ = some (.int .i64 zs[i]) := by
  have hba := h.ba
  rcases h.ba.2 with ⟨_, h0⟩ | ⟨q, c, cur, rfl, _, hg, _⟩
  · omega
  · refine ⟨q, c, rfl, ?_⟩
    rw [hba.cellAt _ (by omega)]
    simp [intVals, hi]
/-- a cell of the object is turned -/
theorem RefAt.cell (h : RefAt r base s zs v0 v1 v2 kp w) {s' : DS} {kp' : ByteArray} (i : Nat) (x : Value) (h1 : s'.stay = s.stay) (h2 : s'.loose = s.loose) (h3 : s'.bad = s.bad) (h4 : s'.armed ≠ 0 → kp' = s'.keep) (h5 : kp'.size ≤ 140737488355328)
    (ho : (w.setCell ⟨r, i, none⟩ x).heap[r]? = some (RO v0 v1 v2 s'.made s'.armed kp' s'.dead)) : RefAt r base s' zs v0 v1 v2 kp' (w.setCell ⟨r, i, none⟩ x) :=
  ⟨ho, by rw [h1]; exact owns_other h.st h.obj (by decide) x, by rw [h2]; exact owns_other h.lo h.obj (by decide) x, owns_other h.ba h.obj (by decide) x, fun k => by rw [h3]; exact h.bads k, h.few, h4, h5, h.low⟩

theorem rmay_at (h : RefAt r base s zs v0 v1 v2 kp w) (hk : s.Ok) (n : Int) (hn : I64 n) :
    Calls Try.prog 65 #[.pointer (some ⟨r, 0, none⟩), .int .i64 n] w fun e w' => e = .returned (.int .i64 (s.may n)) ∧ w = w' := by
  obtain ⟨q, c, rfl, _, _⟩ := h.v0_is hk.pos
  have c0 := RO.c0 h.obj
  have c6 := RO.c6 h.obj
  have hle := hk.le
  unfold DS.may
  obtain ⟨h1, h2⟩ := hn
  generalize s.stay.length = N at c0 hle ⊢
  cases hd : s.dead with
  | true =>
    rw [hd] at c6
    clear h hk hd
    go_enter Try.func65, Try.ntmps65
    go_wp2
    go_ret
    exact ⟨rfl, rfl⟩
  | false =>
    rw [hd] at c6
    clear h hk hd
    by_cases h0 : n < 0
    · go_enter Try.func65, Try.ntmps65
      go_wp2
      go_ret
      exact ⟨by simp, rfl⟩
    · by_cases h3 : (N : Int) ≤ n
      · go_enter Try.func65, Try.ntmps65
        go_wp2
        go_ret
        exact ⟨by simp, rfl⟩
      · go_enter Try.func65, Try.ntmps65
        go_wp2
        go_ret
        exact ⟨by simp, rfl⟩

set_option maxRecDepth 100000 in
theorem risBad_at (h : RefAt r base s zs v0 v1 v2 kp w) (n : Int) :
    Calls Try.prog 66 #[.pointer (some ⟨r, 0, none⟩), .int .i64 n] w fun e w' => e = .returned (.bool (s.bad n)) ∧ w = w' := by
  obtain ⟨a2, k2, rfl⟩ := row_shape h.ba
  have c2 := RO.c2 h.obj
  have HC := Lib.hid (fun i (hi : i < zs.length) => h.v2_cells hi)
  have HF := Lib.hid h.few
  rw [← h.bads n]
  clear h
  go_enter Try.func66, Try.ntmps66
  go_wp2
  go_loop [5] (fun i => ∃ k : Nat, k ≤ zs.length ∧ i = .int .i64 k ∧ ∀ j (_ : j < k) (hj : j < zs.length), zs[j] ≠ n) (fun i => zs.length - (intOf i).toNat)
  case atStart => exact ⟨0, Nat.zero_le _, rfl, fun j hj _ => by omega⟩
  case round =>
    obtain ⟨k, hk, rfl, hno⟩ := hrel
    have HN := Lib.hid hno
    have hf := HF.out
    clear hno
    by_cases hlt : k < zs.length
    · obtain ⟨q, c, e, hc⟩ := HC.out k hlt
      simp only [Value.slice.injEq] at e
      obtain ⟨rfl, -, rfl⟩ := e
      have hki : (k : Int) < (zs.length : Int) := by omega
      have HM := Lib.hid (List.getElem_mem hlt)
      have HNX := Lib.hid (fun (hz : zs[k] ≠ n) j (hj : j < k + 1) (hl : j < zs.length) => show zs[j] ≠ n by
        by_cases e : j = k
        · subst e; exact hz
        · exact HN.out j (by omega) hl)
      generalize zs[k] = z at hc HM HNX
      by_cases hz : z = n
      · subst hz
        go_wp2
        go_ret
        exact ⟨by simp [HM.out], rfl⟩
      · have hzb : (z == n) = false := beq_eq_false_iff_ne.2 hz
        go_wp2
        go_round
        case rel => exact ⟨k + 1, by omega, by go_num, HNX.out hz⟩
        case measure => simp [intOf]; omega
    · have hki : ¬ (k : Int) < (zs.length : Int) := by omega
      go_wp2
      go_ret
      refine ⟨?_, rfl⟩
      have : n ∉ zs := fun hm => by
        obtain ⟨j, hj, e⟩ := List.mem_iff_getElem.1 hm
        exact HN.out j (by omega) hj e
      simp [this]

end
end Go.Proofs.Ytmbknpipefbelaa
