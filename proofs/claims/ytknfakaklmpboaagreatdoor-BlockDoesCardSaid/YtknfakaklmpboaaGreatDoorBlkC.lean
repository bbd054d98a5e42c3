/-
  A volume: a block's sectors are read (load), and written (store).
-/
import Derived.Test.YtknfakaklmpboaaGreatDoorBlkB
namespace Go.Proofs.YtknfakaklmpboaaGreatDoor
open Go.RowKit Go Go.Maps SM

theorem bwrite_any (B b : Nat) (bs : List Value) (s : ByteArray) (w : World) (h : Lib.IsBuilder 112 5 B b bs w) (hlen : bs.length + s.size ≤ 140737488355328) (hBw : B ≤ w.heap.size) :
    Calls Tryz.prog 83 #[.pointer (some ⟨b, 0, none⟩), .string s] w fun e w' => e = .returned (.tuple #[.int .i64 s.size, .nilIface]) ∧ (Lib.BuilderAt 112 5 B b (.pointer (some ⟨b, 0, none⟩)) (bs ++ Lib.strCells s) w' ∧ Below B w w') :=
  Any.Builder_WriteString { Tryz.lays105 with } extra B b bs s w h hlen hBw
theorem bstring_any (B b : Nat) (l : List UInt8) (w : World) (h : Lib.IsBuilder 112 5 B b (Lib.byteCells l) w) (h0 : l ≠ []) :
    Calls Tryz.prog 84 #[.pointer (some ⟨b, 0, none⟩)] w fun e w' => e = .returned (.string ⟨l.toArray⟩) ∧ Below B w w' :=
  Any.Builder_String { Tryz.lays105 with } extra B b l w h h0
theorem len_loads {s : DS} (h : s.Ok) (f : Nat) : ∀ k i, (loads s f k i).2.length ≤ 64 * k
  | 0, _ => by simp [loads]
  | k + 1, i => by
    by_cases he : s.readE ((f + i : Nat) : Int) = 0
    · rw [loads_go he]
      have h1 := len_loads h f k (i + 1)
      have h2 := h.readS_size he
      rw [List.length_append, len_of, h2]
      omega
    · rw [loads_stop he]; simp
section
variable {base l b g m c : Nat} {F : Nat → Prop} {x : VS} {w w' : World}
/-- what load tells -/
def loadedV (p : Int × List UInt8) : Value := if p.1 = 0 then .tuple #[.string (bsL p.2), .int .i64 0] else .tuple #[.string ⟨#[]⟩, .int .i64 p.1]
set_option maxRecDepth 100000 in
set_option maxHeartbeats 2000000 in
theorem vload_any (h : VolAt base l b g m c F x w) (v : Nat) (hv : v ≤ 1048576) :
    Calls Tryz.prog 35 #[.pointer (some ⟨l, 0, none⟩), .int .i64 v] w fun e w' => e = .returned (loadedV (loadV x.disk v)) ∧ Below w.heap.size w w' := by
  obtain ⟨R, hR⟩ : ∃ R, loadV x.disk v = R := ⟨_, rfl⟩
  rw [hR]
  have HR := Lib.hid hR
  have H := Lib.hid h
  have hok := h.disk.1
  obtain ⟨s, hs⟩ : ∃ s, x.disk = s := ⟨_, rfl⟩
  rw [hs] at HR hok
  have HS := Lib.hid hs
  obtain ⟨w0, hw0⟩ : ∃ w0, w.alloc (.cells #[.pointer none, .slice none 0 0] 112) = w0 := ⟨_, rfl⟩
  have HB0 := Lib.hid (show Below w.heap.size w w0 by rw [← hw0]; exact (Below.refl _ w).alloc (Nat.le_refl _) _)
  have HI0 := Lib.hid (show Lib.IsBuilder 112 5 w.heap.size w.heap.size (Lib.byteCells []) w0 by rw [← hw0]; exact Lib.fresh_isBuilder _ _ w)
  have HOK := Lib.hid hok
  clear h hR hs hok
  go_enter Tryz.func35, Tryz.ntmps35
  go_wp2
  go_loopw [10] (fun i wr => ∃ (j : Nat) (L : List UInt8), j ≤ 4 ∧ i = .int .i64 j ∧ Hid (R = ((loads s (4 * v) (4 - j) j).1, L ++ (loads s (4 * v) (4 - j) j).2)) ∧ L.length = 64 * j ∧ Hid (Lib.IsBuilder 112 5 w.heap.size w.heap.size (Lib.byteCells L) wr) ∧ Hid (Below w.heap.size w wr)) (fun i _ => 4 - (intOf i).toNat)
  case atStart => exact ⟨0, [], by omega, rfl, Lib.hid (by rw [← HR.out, loadV]; simp), rfl, HI0, HB0⟩
  case round =>
    clear HB0 HI0 hw0
    obtain ⟨j, L, hj, rfl, HQ, hl, HI, HB⟩ := hrel
    have H1 := Lib.hid (H.out.below HB.out)
    by_cases hlt : j < 4
    · have hji : (j : Int) < 4 := by omega
      have c0 := VObj.c0 H1.out.obj
      have C2 := read_any H1.out.disk ((v : Int) * 4 + (j : Int)) ⟨by omega, by omega⟩
      rw [HS.out, show (v : Int) * 4 + (j : Int) = ((4 * v + j : Nat) : Int) by omega] at C2
      have hi2 : (v : Int) * 4 + (j : Int) = ((4 * v + j : Nat) : Int) := by omega
      have h4 : 4 - j = (4 - (j + 1)) + 1 := by omega
      by_cases hE : s.readE ((4 * v + j : Nat) : Int) = 0
      · have HQ2 := Lib.hid (show R = ((loads s (4 * v) (4 - (j + 1)) (j + 1)).1, (L ++ (s.readS ((4 * v + j : Nat) : Int)).data.toList) ++ (loads s (4 * v) (4 - (j + 1)) (j + 1)).2) by
          rw [HQ.out, h4, loads_go hE, List.append_assoc])
        have hsz := HOK.out.readS_size hE
        rw [hE] at C2
        generalize s.readS ((4 * v + j : Nat) : Int) = Y at *
        have hll := Lib.hid (show (L ++ Y.data.toList).length = 64 * (j + 1) by rw [List.length_append, len_of, hsz, hl]; omega)
        have HL := Lib.hid hl
        rw [← hi2] at C2
        clear hE h4 hi2 HQ hl
        go_wp2_with fail
        refine C2.mono ?_
        rintro e w2 ⟨rfl, hB2⟩
        have HB2 := Lib.hid (HB.out.trans (hB2.mono HB.out.size))
        have hI2 : Lib.IsBuilder 112 5 w.heap.size w.heap.size (Lib.byteCells L) w2 := by
          have hb := HI.out
          have hkeep : ∀ p, Lib.BuilderAt 112 5 w.heap.size w.heap.size p (Lib.byteCells L) wr → Lib.BuilderAt 112 5 w.heap.size w.heap.size p (Lib.byteCells L) w2 := fun p hp => by
            obtain ⟨a1, u, a2, a3, a4⟩ := hp
            exact ⟨a1, u, keeps_of hB2 a2, owns_below a3 hB2, a4⟩
          rcases hb with hb | hb
          · exact .inl (hkeep _ hb)
          · exact .inr (hkeep _ hb)
        have C3 := bwrite_any w.heap.size w.heap.size (Lib.byteCells L) Y w2 hI2 (by rw [Lib.byteCells_length, HL.out, hsz]; omega) HB2.out.size
        clear hB2 C2 hI2 c0 H1
        go_wp2_with fail
        refine C3.mono ?_
        rintro e w3 ⟨rfl, hb3, hB3⟩
        have HB3 := Lib.hid (HB2.out.trans hB3)
        have HI3 := Lib.hid (show Lib.IsBuilder 112 5 w.heap.size w.heap.size (Lib.byteCells (L ++ Y.data.toList)) w3 by
          rw [Lib.strCells_eq] at hb3
          have e : Lib.byteCells (L ++ Y.data.toList) = Lib.byteCells L ++ Lib.byteCells Y.data.toList := by simp [Lib.byteCells]
          rw [e]
          exact .inr hb3)
        clear hb3 hB3 C3
        go_wp2
        go_roundw
        case rel => exact ⟨j + 1, L ++ Y.data.toList, by omega, by go_num, HQ2, hll.out, HI3, HB3⟩
        case measure => simp [intOf]; omega
      · have HQ2 := Lib.hid (show R.1 = s.readE ((4 * v + j : Nat) : Int) by rw [HQ.out, h4, loads_stop hE])
        have HE := Lib.hid hE
        have hEb : (s.readE ((4 * v + j : Nat) : Int) != 0) = true := by simpa using hE
        generalize s.readE ((4 * v + j : Nat) : Int) = E at *
        generalize s.readS ((4 * v + j : Nat) : Int) = Y at *
        rw [← hi2] at C2
        clear hE h4 hi2 HQ hl
        go_wp2_with fail
        refine C2.mono ?_
        rintro e w2 ⟨rfl, hB2⟩
        have HB2 := Lib.hid (HB.out.trans (hB2.mono HB.out.size))
        clear hB2 C2 H1
        go_wp2
        go_ret2
        exact ⟨by rw [loadedV, if_neg (by rw [HQ2.out]; exact HE.out), HQ2.out]; rfl, HB2.out⟩
    · have hji : ¬ (j : Int) < 4 := by omega
      have h0 : 4 - j = 0 := by omega
      have HQ2 := Lib.hid (show R = (0, L) by rw [HQ.out, h0, loads, List.append_nil])
      have C3 := bstring_any w.heap.size w.heap.size L wr HI.out (by rintro rfl; simp at hl; omega)
      clear HQ hl HI H1 h0
      go_wp2_with fail
      refine C3.mono ?_
      rintro e w3 ⟨rfl, hB3⟩
      have HB3 := Lib.hid (HB.out.trans hB3)
      clear hB3 C3
      go_wp2
      go_ret2
      exact ⟨by rw [loadedV, HQ2.out, if_pos rfl]; rfl, HB3.out⟩

theorem slice_sec (y : ByteArray) (j : Nat) (h : 64 * j + 64 ≤ y.size) (W : World) :
    (Instr.slice 9 (.string y) (some (.int .i64 ((j : Int) * 64))) (some (.int .i64 (((j : Int) + 1) * 64))) none).run Tryz.prog W = .ok (.string (secB y.data.toList j)) W := by
  have := run_slice_string W 9 y .i64 .i64 ((j : Int) * 64) (((j : Int) + 1) * 64) Tryz.underlying9 (by omega) (by omega) (by omega)
  rw [show ((j : Int) * 64).toNat = 64 * j by omega, show (((j : Int) + 1) * 64).toNat = 64 * j + 64 by omega] at this
  rw [this]
  have e : y.extract (64 * j) (64 * j + 64) = secB y.data.toList j := by
    apply b_ext
    rw [Lib.extract_data, Nat.add_sub_cancel_left, ← secL_full (by rw [len_of]; omega)]
    simp [secB]
  rw [e]
set_option maxRecDepth 100000 in
set_option maxHeartbeats 2000000 in
theorem vstore_any (h : VolAt base l b g m c F x w) (hm : x.disk.made < 1000000000) (v : Nat) (hv : v ≤ 1048576) (y : ByteArray) (hy : y.size = 256) :
    Calls Tryz.prog 46 #[.pointer (some ⟨l, 0, none⟩), .int .i64 v, .string y] w fun e w' => e = .returned (.int .i64 (puts (4 * v) y.data.toList 4 0 x.disk).1) ∧ VolAt base l b g m c F { x with disk := (puts (4 * v) y.data.toList 4 0 x.disk).2 } w' ∧ Stir (Foot b g m) w w' := by
  obtain ⟨R, hR⟩ : ∃ R, puts (4 * v) y.data.toList 4 0 x.disk = R := ⟨_, rfl⟩
  rw [hR]
  have HR := Lib.hid hR
  have H := Lib.hid h
  have HY := Lib.hid hy
  have HSL := Lib.hid (fun j hj W => slice_sec y j hj W)
  clear h hR hy
  go_enter Tryz.func46, Tryz.ntmps46
  go_wp2
  go_loopw [9] (fun i wr => ∃ (j : Nat) (sj : DS), j ≤ 4 ∧ i = .int .i64 j ∧ Hid (R = puts (4 * v) y.data.toList (4 - j) j sj) ∧ Hid (VolAt base l b g m c F { x with disk := sj } wr) ∧ Hid (Stir (Foot b g m) w wr) ∧ Hid (sj.made ≤ x.disk.made + j)) (fun i _ => 4 - (intOf i).toNat)
  case atStart => exact ⟨0, x.disk, by omega, rfl, Lib.hid HR.out.symm, H, Lib.hid (Stir.refl _ _), Lib.hid (by omega)⟩
  case round =>
    obtain ⟨j, sj, hj, rfl, HQ, H1, HS, HM⟩ := hrel
    by_cases hlt : j < 4
    · have hji : (j : Int) < 4 := by omega
      have hsl := HSL.out j (by have := HY.out; omega)
      have H1d := Lib.hid (H1.out.below ((Below.refl _ wr).drew))
      have c0 := VObj.c0 H1d.out.obj
      have hi2 : (v : Int) * 4 + (j : Int) = ((4 * v + j : Nat) : Int) := by omega
      have CW := fun W (h : VolAt base l b g m c F { x with disk := sj } W) => write_any h.disk (by have := HM.out; show sj.made < _; omega) ((v : Int) * 4 + (j : Int)) ⟨by omega, by omega⟩ (secB y.data.toList j)
      simp only at CW
      rw [hi2] at CW
      have w1 : IntKind.i64.wrap ((v : Int) * 4) = (v : Int) * 4 := IntWalk.i64_in _ (by omega)
      have w2 : IntKind.i64.wrap ((v : Int) * 4 + (j : Int)) = (v : Int) * 4 + (j : Int) := IntWalk.i64_in _ (by omega)
      have w3 : IntKind.i64.wrap ((j : Int) * 64) = (j : Int) * 64 := IntWalk.i64_in _ (by omega)
      have w4 : IntKind.i64.wrap ((j : Int) + 1) = (j : Int) + 1 := IntWalk.i64_in _ (by omega)
      have w5 : IntKind.i64.wrap (((j : Int) + 1) * 64) = ((j : Int) + 1) * 64 := IntWalk.i64_in _ (by omega)
      have h4 : 4 - j = (4 - (j + 1)) + 1 := by omega
      have hlen := len_write sj ((4 * v + j : Nat) : Int) (secB y.data.toList j)
      have hmade := made_write' sj ((4 * v + j : Nat) : Int) (secB y.data.toList j)
      by_cases hE : sj.writeE ((4 * v + j : Nat) : Int) (secB y.data.toList j) = 0
      · have HQ2 := Lib.hid (show R = puts (4 * v) y.data.toList (4 - (j + 1)) (j + 1) (sj.write ((4 * v + j : Nat) : Int) (secB y.data.toList j)) by rw [HQ.out, h4, puts_go hE])
        rw [hE] at CW
        rw [← hi2] at CW hlen hmade HQ2
        have HLen := Lib.hid hlen
        have HM2 := Lib.hid (show (sj.write ((v : Int) * 4 + (j : Int)) (secB y.data.toList j)).made ≤ x.disk.made + (j + 1) by have := HM.out; omega)
        generalize secB y.data.toList j = Y at *
        generalize sj.write ((v : Int) * 4 + (j : Int)) Y = s2 at *
        clear hE h4 HQ hlen hmade HM hi2
        go_wp2
        go_region_held3 (fun w' => w'.cell? ⟨l, 0, none⟩ = some (.pointer (some ⟨b, 0, none⟩))) (first | exact c0 | exact d0)
          (first
            | (go_at_call 78; refine (CW _ H1d.out).mono ?_; rintro e w5 ⟨rfl, h5, s5⟩; have H5 := Lib.hid (H1d.out.turn h5 s5 HLen.out); have S5 := Lib.hid (HS.out.drew.trans s5 (fun i e => .inl e)); have d0 := VObj.c0 H5.out.obj; clear h5 s5))
        all_goals (
          go_wp2
          go_roundw
          case rel => exact ⟨j + 1, s2, by omega, by go_num, HQ2, H5, S5, HM2⟩
          case measure => simp [intOf]; omega)
      · have HQ2 := Lib.hid (show R = (sj.writeE ((4 * v + j : Nat) : Int) (secB y.data.toList j), sj.write ((4 * v + j : Nat) : Int) (secB y.data.toList j)) by rw [HQ.out, h4, puts_stop hE])
        rw [← hi2] at CW hlen hmade HQ2 hE
        have HLen := Lib.hid hlen
        have hEb : (sj.writeE ((v : Int) * 4 + (j : Int)) (secB y.data.toList j) != 0) = true := by simpa using hE
        generalize secB y.data.toList j = Y at *
        generalize sj.write ((v : Int) * 4 + (j : Int)) Y = s2 at *
        generalize sj.writeE ((v : Int) * 4 + (j : Int)) Y = E at *
        clear hE h4 HQ hlen hmade HM hi2
        go_wp2
        go_region_held3 (fun w' => w'.cell? ⟨l, 0, none⟩ = some (.pointer (some ⟨b, 0, none⟩))) (first | exact c0 | exact d0)
          (first
            | (go_at_call 78; refine (CW _ H1d.out).mono ?_; rintro e w5 ⟨rfl, h5, s5⟩; have H5 := Lib.hid (H1d.out.turn h5 s5 HLen.out); have S5 := Lib.hid (HS.out.drew.trans s5 (fun i e => .inl e)); have d0 := VObj.c0 H5.out.obj; clear h5 s5))
        all_goals (
          go_wp2
          go_ret
          exact ⟨by rw [HQ2.out]; rfl, by rw [HQ2.out]; exact H5.out, S5.out⟩)
    · have hji : ¬ (j : Int) < 4 := by omega
      have h0 : 4 - j = 0 := by omega
      have HQ2 := Lib.hid (show R = (0, sj) by rw [HQ.out, h0, puts_zero])
      clear HQ h0
      go_wp2
      go_ret
      exact ⟨by rw [HQ2.out]; rfl, by rw [HQ2.out]; exact H1.out, HS.out⟩
end
end Go.Proofs.YtknfakaklmpboaaGreatDoor

