/-
  A log: load, Open.
-/
import Derived.Test.YteboacjniokfpaaGreatDoorNC
namespace Go.Proofs.YteboacjniokfpaaGreatDoor
open Go.RowKit Go Go.Maps SM

theorem step_min {P : Program} (w : World) {ops : Array Oper} {o : Oper} {a : Act} {K : Act → World → Prop} {Q : Exit → Act → World → Prop} {E : Prop} (hgd : o.guard = none) (x c : Operand) (t1 t2 : TypeId)
    (ho : o.op = .call { callee := .builtin .min, args := #[x, c], argTypes := #[t1, t2] }) (p q m : Int) (hx : a.eval x = .int .i64 p) (hc : a.eval c = .int .i64 q) (hm : (if q < p then q else p) = m) (h : K (a.put o.dst (.int .i64 m)) w) :
    if Region.wanted o (yielded ops a.tmps) = true then Oper.wp P o a w K Q else E := by
  have hw : Region.wanted o (yielded ops a.tmps) = true := by simp [Region.wanted, hgd]
  rw [if_pos hw]
  unfold Oper.wp execOp
  simp only [ho, resolve, invoke, builtin, Sem.run_bind, Sem.run_pure, Result.andThen_ok, List.map_toArray, List.map_cons, List.map_nil, hx, hc, run_min_int2, hm]
  exact h
/-- sectors are read, one behind the other, up to the first error -/
def loads (s : DS) (from_ : Nat) : Nat → Nat → Int × List UInt8
  | 0, _ => (0, [])
  | k + 1, i => if s.readE ((from_ + i : Nat) : Int) = 0 then ((loads s from_ k (i + 1)).1, (s.readS ((from_ + i : Nat) : Int)).data.toList ++ (loads s from_ k (i + 1)).2) else (s.readE ((from_ + i : Nat) : Int), [])
theorem loads_go {s : DS} {f k i : Nat} (h : s.readE ((f + i : Nat) : Int) = 0) : loads s f (k + 1) i = ((loads s f k (i + 1)).1, (s.readS ((f + i : Nat) : Int)).data.toList ++ (loads s f k (i + 1)).2) := by rw [loads, if_pos h]
theorem loads_stop {s : DS} {f k i : Nat} (h : s.readE ((f + i : Nat) : Int) ≠ 0) : loads s f (k + 1) i = (s.readE ((f + i : Nat) : Int), []) := by rw [loads, if_neg h]
theorem DS.Ok.readS_size {s : DS} (h : s.Ok) {n : Int} (he : s.readE n = 0) : (s.readS n).size = 64 := by
  have hm : s.may n = 0 := by
    unfold DS.readE at he
    split at he
    · assumption
    · rename_i h1; simpa using h1
  obtain ⟨_, h1, h2⟩ := DS.may_ok hm
  unfold DS.readS
  rw [if_pos he]
  exact h.look_size h1 h2

/-- a log's object since a world: its row is new -/
structure LR (l b g m gen : Nat) (v : Value) (R : List UInt8) (s : DS) (w0 w : World) : Prop where
  obj : w.heap[l]? = some (LObj b gen v false)
  disk : DiskAt b g m s w
  row : w.ownsRow w0.heap.size 5 1 v R.length (u8c R)
  stir : Stir (· = l) w0 w
section
variable {l b g m gen : Nat} {v : Value} {R : List UInt8} {s : DS} {w0 w w' : World}
theorem LR.below (h : LR l b g m gen v R s w0 w) (hB : Below w.heap.size w w') : LR l b g m gen v R s w0 w' := ⟨keeps_of hB h.obj, h.disk.below hB, owns_below h.row hB, h.stir.and_below hB⟩
theorem LR.drew (h : LR l b g m gen v R s w0 w) : LR l b g m gen v R s w0 w.drew := h.below ((Below.refl _ w).drew)

/-- a text is laid behind the row, and the object has it -/
theorem LR.more {av : Option Addr} {n cv : Nat} {a3 : Option Addr} {c3 : Nat} {X : ByteArray} {R' : List UInt8} {w3 : World} (h : LR l b g m gen (.slice av n cv) R s w0 w) (hw : DiskAt b g m s w0) (hdl : ¬ Foot b g m l) (hn : R.length = n)
    (hr : w3.ownsRow w0.heap.size 5 1 (.slice a3 (n + X.size) c3) (n + X.size) (u8c R ++ Lib.strCells X)) (hg : w.grownBy w3 (Value.slice av n cv).ownBlock) (ho : w3.heap[l]? = some (LObj b gen (.slice av n cv) false)) (hR : R' = R ++ X.data.toList) :
    LR l b g m gen (.slice a3 (n + X.size) c3) R' s w0 (w3.setCell ⟨l, 2, none⟩ (.slice a3 (n + X.size) c3)) := by
  have hlt := h.row.lt
  have hs3 : Stir (· = l) w3 (w3.setCell ⟨l, 2, none⟩ (.slice a3 (n + X.size) c3)) := (Stir.refl (· = l) w3).set (.inl rfl) _
  refine ⟨?_, ?_, ?_, ?_⟩
  · rw [heap_set ho]; simp [LObj]
  · refine (h.disk.stay (stir_of_grown hg) (fun i hi e => ?_)).stay hs3 (fun i hi e => hdl (e ▸ hi))
    have h1 := hw.lt hi
    have h2 := (hlt i e).1
    omega
  · have := owns_other (i := 2) hr ho (by decide) (.slice a3 (n + X.size) c3)
    rw [hR, List.length_append, len_of, hn]
    simpa [u8c, strCells_u8c] using this
  · exact (h.stir.trans (stir_of_grown hg) (fun i e => .inr (hlt i e).1)).trans hs3 (fun i e => .inl e)
set_option maxRecDepth 100000 in
set_option maxHeartbeats 4000000 in
theorem load_any (h0 : w.heap[l]? = some (LObj b gen (.slice none 0 0) false)) (hd : DiskAt b g m s w) (hg : gen ≤ 1099511627776) (used : Nat) (hu : used ≤ 64 * halfN s) :
    Calls Tryz.prog 75 #[.pointer (some ⟨l, 0, none⟩), .int .i64 used] w fun e w' => ∃ v R, e = .returned (.int .i64 (loads s (halfAt s.stay gen) ((used + 63) / 64) 0).1) ∧ LR l b g m gen v R s w w' ∧ ((loads s (halfAt s.stay gen) ((used + 63) / 64) 0).1 = 0 → R = (loads s (halfAt s.stay gen) ((used + 63) / 64) 0).2.take used) := by
  obtain ⟨Z, hZ⟩ : ∃ Z, loads s (halfAt s.stay gen) ((used + 63) / 64) 0 = Z := ⟨_, rfl⟩
  rw [hZ]
  have HZ := Lib.hid hZ
  obtain ⟨i0, hi, hz0, hz1, hz2⟩ := info_parts info5e
  have hok := hd.1
  have hul : used ≤ 524288 := by have := hok.le; unfold halfN at hu; omega
  have HUu := Lib.hid hu
  have HOk := Lib.hid hok
  have HI := Lib.hid (show LR l b g m gen (.slice none 0 0) [] s w w from ⟨h0, hd, World.ownsRow_nil _ _ _ _, Stir.refl _ _⟩)
  have hdl : ¬ Foot b g m l := hd.not_cells h0 (by decide) (by decide)
  have HDL := Lib.hid hdl
  clear hZ h0 hd hu hok hdl
  go_enter Tryz.func75, Tryz.ntmps75
  go_wp2
  go_loopw [5] (fun i wr => ∃ (j at_ : Nat) (Acc : List UInt8) (v : Value), j ≤ (used + 63) / 64 ∧ Hid (at_ = 64 * j) ∧ i = .int .i64 at_ ∧ Hid (Acc.length = at_) ∧ Hid (Z = ((loads s (halfAt s.stay gen) ((used + 63) / 64 - j) j).1, Acc ++ (loads s (halfAt s.stay gen) ((used + 63) / 64 - j) j).2)) ∧ LR l b g m gen v (Acc.take used) s w wr) (fun i _ => used + 64 - (intOf i).toNat)
  case atStart => exact ⟨0, 0, [], _, Nat.zero_le _, Lib.hid rfl, rfl, Lib.hid rfl, Lib.hid (by rw [← HZ.out]; simp), by rw [List.take_nil]; exact HI.out⟩
  case round =>
    obtain ⟨j, at_, Acc, v, hj, HAt, rfl, HAc, HP, hl⟩ := hrel
    obtain ⟨av, cv, rfl⟩ := row_shape hl.row
    by_cases hlt : at_ < used
    · have hai : (at_ : Int) < (used : Int) := by omega
      have hjh : j < (used + 63) / 64 := by have := HAt.out; omega
      obtain ⟨k, hk⟩ : ∃ k, (used + 63) / 64 - j = k + 1 := ⟨(used + 63) / 64 - j - 1, by omega⟩
      have hk2 : (used + 63) / 64 - (j + 1) = k := by omega
      have hat : (Acc.take used).length = at_ := by rw [List.length_take]; have := HAc.out; omega
      obtain ⟨n0, hn0⟩ : ∃ n0, halfAt s.stay gen + j = n0 := ⟨_, rfl⟩
      rw [hat] at hl
      obtain ⟨d, hdd⟩ : ∃ d : Nat, (used : Int) - (at_ : Int) = (d : Int) := ⟨used - at_, by omega⟩
      obtain ⟨mn, e1', e2', e3', hmn⟩ := clampMin d 64
      have e1 : min (d : Int) 64 = (mn : Int) := e1'
      have e2 : (if (64 : Int) < (d : Int) then 64 else (d : Int)) = (mn : Int) := e2'
      have e3 : (if (d : Int) < 64 then (d : Int) else 64) = (mn : Int) := e3'
      clear e1' e2' e3'
      have hwd := wrapI (d : Int) (by omega) (by omega)
      have hm64 : (mn : Int) ≤ 64 := by omega
      have HMn := Lib.hid hmn
      have HHat := Lib.hid hat
      have HDd := Lib.hid hdd
      clear hat hmn
      have HD0 := Lib.hid hl.drew
      have c0 := LObj.c0 HD0.out.obj
      have CS : ∀ W v R, LR l b g m gen v R s w W → Calls Tryz.prog 115 #[.pointer (some ⟨l, 0, none⟩), .int .i64 at_] W fun e w' => e = .returned (.int .i64 n0) ∧ Below W.heap.size W w' := fun W v R h => by
        have := lsector_at h.obj h.disk hg at_ (by omega)
        rw [show at_ / 64 = j by have := HAt.out; omega, hn0] at this
        exact this
      have hni : I64 (n0 : Int) := by
        have h1 := halfAt_fit s.stay gen HOk.out.pos (n := j) (by have := HUu.out; unfold halfN at this; omega)
        have h2 := HOk.out.le
        constructor <;> omega
      have CR := fun W v R (h : LR l b g m gen v R s w W) => read_any h.disk (n0 : Int) hni
      have HGo := Lib.hid (fun h => loads_go (s := s) (f := halfAt s.stay gen) (k := k) (i := j) h)
      have HStop := Lib.hid (fun h => loads_stop (s := s) (f := halfAt s.stay gen) (k := k) (i := j) h)
      have HSz := Lib.hid (fun h => HOk.out.readS_size (n := (n0 : Int)) h)
      rw [hn0] at HGo HStop
      rw [hk] at HP
      clear hl hn0
      by_cases hE : s.readE (n0 : Int) = 0
      · have hsz := HSz.out hE
        rw [hE] at CR
        have HG := Lib.hid (HGo.out hE)
        generalize s.readS (n0 : Int) = Y at *
        go_wp2_with fail
        go_region_held3 (fun w' => w'.cell? ⟨l, 0, none⟩ = some (.pointer (some ⟨b, 0, none⟩))) (first | exact c0 | exact d0 | exact e0)
          (first
            | (go_at_call 115; refine (CS _ _ _ HD0.out).mono ?_; rintro e w5 ⟨rfl, hB⟩; have HR5 := Lib.hid (HD0.out.below hB); have d0 := LObj.c0 HR5.out.obj; clear hB)
            | (go_at_call 72; refine (CR _ _ _ HR5.out).mono ?_; rintro e w6 ⟨rfl, hB⟩; have H6 := Lib.hid (HR5.out.below hB); have e0 := LObj.c0 H6.out.obj; clear hB))
        clear CS CR c0 d0 e0
        go_wp2
        have H7 := Lib.hid H6.out.drew
        have c2 := LObj.c2 H7.out.obj
        have hsl : ∀ W, (Instr.slice 9 (.string Y) none (some (.int .i64 (mn : Int))) none).run Tryz.prog W = .ok (.string (Y.extract 0 mn)) W := fun W => by
          have := run_slice_string_to_if (P := Tryz.prog) (w := W) 9 Y .i64 (mn : Int) Tryz.underlying9
          rw [this, if_pos ⟨by omega, by omega⟩, Int.toNat_natCast]
        have hXs : (Y.extract 0 mn).size = mn := by rw [ByteArray.size_extract]; omega
        have HX := Lib.hid (show (Y.extract 0 mn).data.toList = Y.data.toList.take mn by rw [Lib.extract_data, List.drop_zero, Nat.sub_zero])
        have HXs := Lib.hid hXs
        have hbw : w.heap.size ≤ w6.drew.heap.size := H6.out.stir.size
        generalize Y.extract 0 mn = X at hsl HX HXs hXs
        have HYs := Lib.hid hsz
        have hX64 : X.size ≤ 64 := by omega
        have HRow := Lib.hid (show w6.drew.ownsRow w.heap.size 5 1 (.slice av at_ cv) at_ (u8c (Acc.take used)) by have := H7.out.row; rw [HHat.out] at this; exact this)
        have hnl : (Value.slice av at_ cv).ownBlock ≠ some l := fun e => by
          obtain ⟨C, hC⟩ := owns_block HRow.out e
          rw [H7.out.obj] at hC
          simp [LObj] at hC
        have HNL := Lib.hid hnl
        have HTake := Lib.hid (show (Acc ++ Y.data.toList).take used = Acc.take used ++ X.data.toList by
          have hmn := HMn.out
          have hdd := HDd.out
          have hac := HAc.out
          have hys := HYs.out
          rw [List.take_append, HX.out, hac, List.take_eq_take_min (i := used - at_), len_of, hys]
          congr 2
          omega)
        have hmin : ∀ (ts : Array TypeId) (t : TypeId) (W : World), (Builtin.min_ ts t #[.int .i64 (d : Int), .int .i64 64]).run Tryz.prog W = .ok (.int .i64 (mn : Int)) W := fun ts t W => by rw [run_min_int2, e2]
        clear hsz hXs hnl
        go_region_law (first
          | (refine step_min _ (by rfl) (.tmp 35) (.const (.int .i64 64)) _ _ (by rfl) (d : Int) 64 (mn : Int) (by rfl) (by rfl) e2 ?_)
          | (refine step_append_text _ (by rfl) (.tmp 31) (.tmp 37) 74 9 (by rfl) w.heap.size 5 i0 Tryz.underlying74 Tryz.underlying9 hi hz0 hz1 hz2 _ at_ _ (by rfl) HRow.out X (by rfl) (by unfold maxLen; omega) (by omega) hbw ?_; intro v' w3 hown hgrow hat3; obtain ⟨a3, c3, rfl⟩ := row_shape hown; have hO3 := (stir_of_grown hgrow).keep H7.out.obj HNL.out; have d0 := LObj.c2 hO3; have g0 := LObj.fr hO3 2; have HF := Lib.hid (H7.out.more HI.out.disk HDL.out HHat.out hown hgrow hO3 HTake.out); clear hO3 hown hgrow hat3))
        all_goals (
          clear hsl c2
          go_wp2
          go_roundw
          case rel => exact ⟨j + 1, at_ + 64, Acc ++ Y.data.toList, _, by omega, Lib.hid (by have := HAt.out; omega), by go_num, Lib.hid (by have := HAc.out; have := HYs.out; rw [List.length_append, len_of]; omega), Lib.hid (by rw [HP.out, HG.out, hk2, List.append_assoc]), HF.out⟩
          case measure => simp [intOf]; omega)
      · have HG := Lib.hid (HStop.out hE)
        have hEb : (s.readE (n0 : Int) != 0) = true := by simpa using hE
        have HE0 := Lib.hid hE
        generalize s.readE (n0 : Int) = E at *
        generalize s.readS (n0 : Int) = Y at *
        clear hE
        go_wp2_with fail
        go_region_held3 (fun w' => w'.cell? ⟨l, 0, none⟩ = some (.pointer (some ⟨b, 0, none⟩))) (first | exact c0 | exact d0 | exact e0)
          (first
            | (go_at_call 115; refine (CS _ _ _ HD0.out).mono ?_; rintro e w5 ⟨rfl, hB⟩; have HR5 := Lib.hid (HD0.out.below hB); have d0 := LObj.c0 HR5.out.obj; clear hB)
            | (go_at_call 72; refine (CR _ _ _ HR5.out).mono ?_; rintro e w6 ⟨rfl, hB⟩; have H6 := Lib.hid (HR5.out.below hB); have e0 := LObj.c0 H6.out.obj; clear hB))
        clear CS CR c0 d0 e0
        go_wp2
        go_ret
        have hZ : Z.1 = E := by rw [HP.out, HG.out]
        rw [hZ]
        exact ⟨_, _, rfl, H6.out, fun e => absurd e HE0.out⟩
    · have hjh : j = (used + 63) / 64 := by have := HAt.out; omega
      have hZ : Z = (0, Acc) := by rw [HP.out, show (used + 63) / 64 - j = 0 by omega]; simp [loads]
      have HL := Lib.hid hl
      have hai : ¬ (at_ : Int) < (used : Int) := by omega
      clear hl
      go_wp2
      go_ret
      exact ⟨rfl, _, HL.out⟩
end
end Go.Proofs.YteboacjniokfpaaGreatDoor

