/-
  Each sector tells what was written to it last, synced or not; other sectors stay: for every number of sectors (cut to 1 to 40) and every list of calls, of which the first two hundred are done.
  Conditions: none besides the row's own.
-/
import Derived.Test.YtickjomnmifmjaaDoorDskR
import Derived.Deep.RegionHeld3
import Derived.Deep.RegionHeldLaw
namespace Go.Proofs.YtickjomnmifmjaaDoor.reads
open Go.ChangeShapes Go.WideShapes Go.ChangeAt Go.RowKit Go Go.Maps SM

theorem info9 : (Tryd.prog.info? 9).map (fun i => (i.zero, i.size, i.bytes)) = some (some (.string ⟨#[]⟩), 1, 16) := by kernel_rfl
theorem strs_rep (k : Nat) (x : ByteArray) : strVals (List.replicate k x) ++ [.string x] = strVals (List.replicate (k + 1) x) := by simp [strVals, List.replicate_succ']

/-- what holds between two calls -/
structure Told (w : World) (b g m gh ch n k : Nat) (s : DS) (hs : List ByteArray) (wr : World) : Prop where
  calm : Calm n k s
  disk : DiskAt b g m s wr
  below : Below w.heap.size w wr
  row : wr.ownsRow w.heap.size 9 1 (.slice (some ⟨gh, 0, none⟩) n ch) n (strVals hs)
  len : hs.length = n
  eq : ∀ i : Nat, i < n → s.look i = hs.getD i none0
section
variable {w wr w' : World} {b g m gh ch n k : Nat} {s : DS} {hs : List ByteArray}
theorem Told.later (h : Told w b g m gh ch n k s hs wr) (hB : Below wr.heap.size wr w') : Told w b g m gh ch n k s hs w' :=
  ⟨h.calm, h.disk.below hB, h.below.trans (hB.mono h.below.size), owns_below h.row hB, h.len, h.eq⟩
theorem Told.sync (h : Told w b g m gh ch n k s hs wr) (ho : Over w.heap.size b g m) (hd : DiskAt b g m s.sync w') (hS : Stir (Foot b g m) wr w') : Told w b g m gh ch n (k + 1) s.sync hs w' :=
  ⟨h.calm.sync, hd, step_below h.below hS ho h.below.size, owns_disk h.row h.disk hS (by decide) (by decide), h.len, fun i hi => by rw [h.calm.sync_look hi]; exact h.eq i hi⟩
/-- a call that is refused -/
theorem Told.out (h : Told w b g m gh ch n k s hs wr) (ho : Over w.heap.size b g m) (hd : DiskAt b g m s w') (hS : Stir (Foot b g m) wr w') : Told w b g m gh ch n (k + 1) s hs w' :=
  ⟨h.calm.mono (by omega), hd, step_below h.below hS ho h.below.size, owns_disk h.row h.disk hS (by decide) (by decide), h.len, h.eq⟩
/-- a sector is written, and then told -/
theorem Told.put (h : Told w b g m gh ch n k s hs wr) (ho : Over w.heap.size b g m) {j : Nat} (hj : j < n) {x : ByteArray} (hx : x.size = 64) {w1 w2 : World} (hd : DiskAt b g m (s.lays j x) w1) (hS : Stir (Foot b g m) wr w1) (hB : Below w1.heap.size w1 w2) :
    Told w b g m gh ch n (k + 1) (s.lays j x) (hs.set j x) (w2.setCell ⟨gh, j, none⟩ (.string x)) := by
  have hc := h.calm.write j x
  rw [h.calm.write_is, if_pos ⟨⟨by omega, by omega⟩, hx⟩] at hc
  have r1 := owns_below (owns_disk h.row h.disk hS (by decide) (by decide)) hB
  have d2 := hd.below hB
  have b2 := (step_below h.below hS ho h.below.size).trans (hB.mono (step_below h.below hS ho h.below.size).size)
  obtain ⟨C, hC⟩ := owns_block r1 rfl
  have hl := (h.row.lt gh rfl).1
  refine ⟨hc, d2.other hC (by decide) (by decide) _, b2.setCell (p := ⟨gh, j, none⟩) hl _, ?_, by simp [h.len], fun i hi => ?_⟩
  · have := (r1.stored j (.string x)).1
    rw [show strVals (hs.set j x) = (strVals hs).set j (.string x) by simp [strVals, List.map_set]]
    exact this
  · rw [look_lays, List.getD_eq_getElem?_getD, List.getElem?_set]
    by_cases e : j = i
    · subst e; simp [h.len, hi]
    · rw [if_neg (by omega), if_neg e, h.eq i hi, List.getD_eq_getElem?_getD]
theorem Told.cell (h : Told w b g m gh ch n k s hs wr) {i : Nat} (hi : i < n) : wr.cell? ⟨gh, i, none⟩ = some (.string (hs.getD i none0)) := by
  rw [h.row.cellAt i (by omega)]
  simp [strVals, h.len, hi]
theorem Told.reads (h : Told w b g m gh ch n k s hs wr) {i : Nat} (hi : i < n) (hn : n ≤ 1000) :
    Calls Tryd.prog 18 #[.pointer (some ⟨b, 0, none⟩), .int .i64 i] wr fun e w' => e = .returned (.tuple #[.string (hs.getD i none0), .int .i64 0]) ∧ Below wr.heap.size wr w' := by
  have := read_any h.disk (i : Int) ⟨by omega, by omega⟩
  rw [h.calm.readE_is (by omega) (by omega), h.calm.readS_is (by omega) (by omega), h.eq i hi] at this
  exact this
end
theorem op_cells {w : World} {o : Nat} {K j y mo : Int} {kp : ByteArray} {bd : Bool} (h : w.heap[o]? = some (.cells #[.int .i64 K, .int .i64 j, .int .u8 y, .int .i64 mo, .string kp, .bool bd] 37 (0, 0))) :
    w.cell? ⟨o, 1, none⟩ = some (.int .i64 j) ∧ w.cell? ⟨o, 2, none⟩ = some (.int .u8 y) := by simp [World.cell?, h]

set_option maxRecDepth 100000 in
set_option maxHeartbeats 4000000 in
theorem walk (n0 : Int) (va : Value) (l : List (Int × Int × Int × Int × ByteArray × Bool)) (w : World) (_r0 : IntOk n0) (hO : OpsAt w va l) (hl : OpsOk l) :
    Calls Tryd.prog 7 #[.int .i64 n0, va] w fun r w' => r = .returned (.bool true) ∧ Below w.heap.size w w' := by
  obtain ⟨aa, capa, rfl, ha⟩ := hO
  have HA := Lib.hid ha
  have hl1 := hl.1
  have HL := Lib.hid hl.2
  obtain ⟨P, n, ⟨p1, p2, p3⟩, ⟨q1, q2, q3⟩, hn1, hn2⟩ := clampN n0
  have HN := Lib.hid (And.intro hn1 hn2)
  obtain ⟨i0, hi, hz0, hz1, hz2⟩ := info_parts info9
  have N1 := fun w => new_yes n hn1 (by omega) w
  have CZ : ∀ w, Calls Tryd.prog 21 #[.int .u8 0, .int .i64 0] w fun e w' => e = .returned (.string zero64) ∧ Below w.heap.size w w' := fun w => by
    have := sector_any 0 0 w
    rw [sec_zero] at this
    exact this
  clear ha hl hn1 hn2
  go_enter Tryd.func7, Tryd.ntmps7
  go_wp2_with fail
  refine (N1 _).mono ?_
  rintro e w1 ⟨b, g, m, rfl, h1, ho, hB1⟩
  have H1 := Lib.hid (h1.below ((Below.refl _ w1).alloc (Nat.le_refl _) (.cells #[] 9)))
  have HO := Lib.hid (show Over w.heap.size b g m from ho)
  have HB1 := Lib.hid (hB1.trans (((Below.refl _ w1).alloc (Nat.le_refl _) (.cells #[] 9)).mono hB1.size))
  have HR1 := Lib.hid ((World.ownsRow_made (base := w.heap.size) (e := 9) (size := 1) w1 #[] 0 hB1.size (Nat.zero_le _) rfl))
  clear h1 ho hB1 N1 p1 p2 p3 q1 q2 q3
  go_wp2_with fail
  go_loopw [8, 9] (fun v i wr => ∃ k : Nat, k ≤ n ∧ i = .int .i64 k ∧ wr.ownsRow w.heap.size 9 1 v k (strVals (List.replicate k zero64)) ∧ v ≠ .slice none 0 0 ∧ DiskAt b g m (fresh (blank n)) wr ∧ Below w.heap.size w wr) (fun _ i _ => n - (intOf i).toNat)
  case atStart => exact ⟨0, Nat.zero_le _, rfl, HR1.out, by simp, H1.out, HB1.out⟩
  case round =>
    obtain ⟨k, hk, rfl, hrow, hnil, hd, hB⟩ := hrel
    have HD := Lib.hid hd
    have HB := Lib.hid hB
    have HR := Lib.hid hrow
    have HV := Lib.hid hnil
    have hn40 := HN.out.2
    clear hd hB hrow hnil H1 HB1 HR1
    by_cases hlt : k < n
    · go_wp2_with fail
      refine (CZ _).mono ?_
      rintro e w2 ⟨rfl, hB2⟩
      have HD2 := Lib.hid (HD.out.below hB2)
      have HB2 := Lib.hid (HB.out.trans (hB2.mono HB.out.size))
      have HR2 := Lib.hid (owns_below HR.out hB2)
      clear hB2
      go_wp2_with (at_builtin; refine wpList_append_own _ rfl _ _ 47 rfl w.heap.size 9 i0 (.string ⟨#[]⟩) 1 16 Tryd.underlying47 hi hz0 hz1 hz2 rfl (by decide) _ k _ rfl (HR2.out.alloc _) ⟨w2.heap.size, 0, none⟩ 1 1 [.string zero64] rfl rfl (cell_one_new _ _ _) (by simp [Value.oneCell']) (by unfold maxLen; omega) (by omega) (by simp; have := HB2.out.size; omega) ?_; intro v' w3 hrow3 hgrow3 hnil3)
      rw [strs_rep] at hrow3
      have hda := HD2.out.below ((Below.refl _ w2).alloc (Nat.le_refl _) (.cells #[.string zero64] 9))
      have HD3 := Lib.hid (hda.grown (HR2.out.alloc _) hgrow3 (by decide) (by decide))
      have HB3 := Lib.hid ((HB2.out.alloc HB2.out.size (.cells #[.string zero64] 9)).grown hgrow3 (by have := HB2.out.size; simp; omega) (fun j hj => (HR2.out.lt j hj).1))
      have HR3 := Lib.hid hrow3
      have HV3 := Lib.hid (show v' ≠ .slice none 0 0 from fun e => by have := (hnil3.1 e).2; omega)
      clear hrow3 hgrow3 hnil3 hda
      go_wp2_with fail
      go_roundw
      case rel => exact ⟨k + 1, by omega, by go_num, HR3.out, HV3.out, HD3.out, HB3.out⟩
      case measure => simp [intOf]; omega
    · obtain rfl : n = k := by omega
      obtain ⟨gh, ch, cur, rfl, -⟩ : ∃ gh ch cur, _ = Value.slice (some ⟨gh, 0, none⟩) n ch ∧ wr.heap[gh]? = some (.cells cur 9 (0, 0)) := by
        rcases HR.out.2 with ⟨e, _⟩ | ⟨gh, ch, cur, e, _, hg, _⟩
        · exact absurd e HV.out
        · exact ⟨gh, ch, cur, e, hg⟩
      have HT := Lib.hid (show Told w b g m gh ch n 0 (fresh (blank n)) (List.replicate n zero64) wr from ⟨calm_fresh HN.out.1 (by omega), HD.out, HB.out, HR.out, by simp, fun i hi => by rw [look_fresh hi]; simp [hi]⟩)
      clear HR HV HD HB CZ hlt
      go_wp2_with fail
      go_loopw [10] (fun i wr => ∃ (k : Nat) (s : DS) (hs : List ByteArray), k ≤ l.length ∧ k ≤ 200 ∧ i = .int .i64 k ∧ Told w b g m gh ch n k s hs wr) (fun i _ => 200 - (intOf i).toNat)
      case atStart => exact ⟨0, _, _, Nat.zero_le _, Nat.zero_le _, rfl, HT.out⟩
      case round =>
        obtain ⟨k, s, hs, hk1, hk2, rfl, hT⟩ := hrel
        have HT1 := Lib.hid hT
        clear hT HT
        by_cases hlt : k < l.length ∧ k < 200
        · obtain ⟨t1, t2⟩ := hlt
          obtain ⟨ba, off, rfl, hba, hcells⟩ := HA.out (by intro e; rw [e] at t1; simp at t1)
          obtain ⟨c0, c1, c2, c3, c4, c5⟩ := hcells k t1
          obtain ⟨-, z1, z2, -⟩ := HL.out _ (List.getElem_mem t1)
          generalize l[k].1 = K at c0
          generalize l[k].2.1 = j at c1 z1
          generalize l[k].2.2.1 = y at c2 z2
          generalize l[k].2.2.2.1 = mo at c3
          generalize l[k].2.2.2.2.1 = kp at c4
          generalize l[k].2.2.2.2.2 = bd at c5
          have HK := Lib.hid (And.intro t1 t2)
          have old : ∀ i, wr.cell? ⟨ba, i, none⟩ = w.cell? ⟨ba, i, none⟩ := fun i => HT1.out.below.cell (p := ⟨ba, i, none⟩) hba
          rw [← old] at c0 c1 c2 c3 c4 c5
          obtain ⟨w2, hw2⟩ : ∃ w2, wr.alloc (.cells #[.int .i64 K, .int .i64 j, .int .u8 y, .int .i64 mo, .string kp, .bool bd] 37) = w2 := ⟨_, rfl⟩
          have hB2 : Below wr.heap.size wr w2 := by rw [← hw2]; exact (Below.refl _ wr).alloc (Nat.le_refl _) _
          have Q1 := Lib.hid (show w2.heap[wr.heap.size]? = some (.cells #[.int .i64 K, .int .i64 j, .int .u8 y, .int .i64 mo, .string kp, .bool bd] 37 (0, 0)) by rw [← hw2]; exact heap_alloc_new wr _)
          have HT2' := Lib.hid (HT1.out.later hB2)
          have q0 : w2.cell? ⟨wr.heap.size, 0, none⟩ = some (.int .i64 K) := by simp [World.cell?, Q1.out]
          have HT2 := Lib.hid (HT2'.out.later (Below.refl _ _).drew)
          have Q2 := Lib.hid (show w2.drew.heap[wr.heap.size]? = _ from Q1.out)
          obtain ⟨a1, a2⟩ := op_cells Q2.out
          have e1 : (k : Int) < (l.length : Int) := by omega
          have e2 : (k : Int) < 200 := by omega
          have hn40 := HN.out.2
          clear old hcells hk1 hk2 t1 t2 hB2
          by_cases hK : K = 2
          · have hK' : (K == 2) = true := by simp [hK]
            have C := sync_any HT2'.out.disk (by have := HT2'.out.calm.made; have := HK.out; omega)
            rw [HT2'.out.calm.syncE_is] at C
            clear hK a1 a2
            as_aux_lemma =>
              go_wp2_with fail
              refine C.mono ?_
              rintro e w5 ⟨rfl, hd5, hs5⟩
              have HT3 := Lib.hid (HT2'.out.sync HO.out hd5 hs5)
              clear hd5 hs5 C q0 HT2'
              have HM := Lib.hid HT3.out.calm
              go_wp2_with fail
              go_loopw [13] (fun i wr => ∃ i0 : Nat, i0 ≤ n ∧ i = .int .i64 i0 ∧ Told w b g m gh ch n (k + 1) s.sync hs wr) (fun i _ => n - (intOf i).toNat)
              case atStart => exact ⟨0, Nat.zero_le _, rfl, HT3.out⟩
              case round =>
                obtain ⟨i0, hi0, rfl, hT⟩ := hrel
                have HT4 := Lib.hid hT
                clear hT HT3
                by_cases hin : i0 < n
                · have C := HT4.out.reads hin (by have := HN.out.2; omega)
                  have hcell := fun W h => (HT4.out.later (w' := W) h).cell hin
                  generalize hs.getD i0 none0 = x at C hcell
                  go_wp2_with fail
                  refine C.mono ?_
                  rintro e w7 ⟨rfl, hB7⟩
                  have hc7 := hcell _ hB7
                  have HT5 := Lib.hid (HT4.out.later hB7)
                  clear hB7 C hcell
                  go_wp2
                  go_roundw
                  case rel => exact ⟨i0 + 1, by omega, by go_num, HT5.out⟩
                  case measure => simp [intOf]; omega
                · go_wp2_with fail
                  go_roundw
                  case rel => exact ⟨k + 1, _, _, by have := HK.out; omega, by have := HK.out; omega, by go_num, HT4.out⟩
                  case measure => have := HK.out; simp [intOf]; omega
          · have hK' : (K == 2) = false := by simp [hK]
            clear hK
            by_cases hr : 0 ≤ j ∧ j < (n : Int)
            · obtain ⟨h0, h1⟩ := hr
              obtain ⟨j, rfl⟩ := Int.eq_ofNat_of_zero_le h0
              have hjn : j < n := by omega
              have HC1 : (if (j : Int) < 0 ∨ (n : Int) ≤ (j : Int) then (61 : Int) else 0) = 0 := by rw [if_neg (by omega)]
              have HC2 : ∀ x : ByteArray, x.size = 64 → (if (0 ≤ (j : Int) ∧ (j : Int) < n) ∧ x.size = 64 then s.lays j x else s) = s.lays j x := fun x hx => by rw [if_pos ⟨⟨by omega, by omega⟩, hx⟩]
              as_aux_lemma =>
                go_wp2_with fail
                go_region_held3 (fun w' => w'.cell? ⟨wr.heap.size, 1, none⟩ = some (.int .i64 (j : Int)) ∧ w'.cell? ⟨wr.heap.size, 2, none⟩ = some (.int .u8 y))
                  (first | exact ⟨a1, a2⟩ | exact ⟨b1, b2⟩ | exact ⟨d1, d2⟩)
                  (first
                    | (go_at_call 21; refine (sector_int y z2 0 _).mono ?_; rintro e w4 ⟨rfl, hB4⟩; have HT4 := Lib.hid (HT2.out.later hB4); have Q4 := Lib.hid (keeps_of hB4 Q2.out); obtain ⟨b1, b2⟩ := op_cells Q4.out; clear hB4)
                    | (go_at_call 20; refine (write_any HT4.out.disk (by have := HT4.out.calm.made; have := HK.out; omega) j z1 _).mono ?_; rintro e w5 ⟨rfl, hd5, hs5⟩; rw [HT4.out.calm.writeE_is j (by rw [size_sec]; rfl), HC1]; rw [HT4.out.calm.write_is j, HC2 _ (by rw [size_sec]; rfl)] at hd5; have Q5 := Lib.hid (hs5.keep Q4.out (HT4.out.disk.not_cells Q4.out (by decide) (by decide))); obtain ⟨d1, d2⟩ := op_cells Q5.out; have HD5 := Lib.hid hd5; have HS5 := Lib.hid hs5; clear hd5 hs5))

                all_goals (
                  clear a1 a2 b1 b2 HC2
                  have R5 := Lib.hid (owns_disk HT4.out.row HT4.out.disk HS5.out (by decide) (by decide))
                  have Q5d := Lib.hid (show w5.drew.heap[wr.heap.size]? = _ from Q5.out)
                  obtain ⟨g1, g2⟩ := op_cells Q5d.out
                  have hcj : (strVals hs)[j]? = some (.string (hs.getD j none0)) := by simp [strVals, HT4.out.len, hjn]
                  go_wp2_with fail
                  go_region_held3 (fun w' => w'.cell? ⟨wr.heap.size, 1, none⟩ = some (.int .i64 (j : Int)) ∧ w'.cell? ⟨wr.heap.size, 2, none⟩ = some (.int .u8 y))
                    (first | exact ⟨g1, g2⟩ | exact ⟨i1, i2⟩ | exact k1 _)
                    (first
                      | (go_at_call 21; refine (sector_int y z2 0 _).mono ?_; rintro e w6 ⟨rfl, hB6⟩; have HB6 := Lib.hid ((show Below w5.heap.size w5 w5.drew from (Below.refl _ _).drew).trans hB6); have r6 := owns_below R5.out HB6.out; have f6 := r6.frozenAt j; have c6 := r6.cellAt j (by omega); rw [hcj] at c6; have q6 := keeps_of hB6 Q5d.out; obtain ⟨i1, i2⟩ := op_cells q6; have k1 := fun x => op_cells (heap_set_other (i := j) q6 (by obtain ⟨C, hC⟩ := owns_block r6 rfl; exact ne_of_heap q6 hC (by simp)) x); clear hB6 r6 q6))
                  all_goals (
                    have HT3 := Lib.hid (HT4.out.put HO.out hjn (by rw [size_sec]; rfl) HD5.out HS5.out HB6.out)
                    clear g1 g2 i1 i2 k1 f6 c6 hcj d1 d2 q0 HC1
                    have HM := Lib.hid HT3.out.calm
                    go_wp2_with fail
                    go_loopw [13] (fun i wr => ∃ i0 : Nat, i0 ≤ n ∧ i = .int .i64 i0 ∧ Told w b g m gh ch n (k + 1) (s.lays (j : Int) (sec (byteOf y) 0)) (hs.set j (sec (byteOf y) 0)) wr) (fun i _ => n - (intOf i).toNat)
                    case atStart => exact ⟨0, Nat.zero_le _, rfl, HT3.out⟩
                    case round =>
                      obtain ⟨i0, hi0, rfl, hT⟩ := hrel
                      have HT4 := Lib.hid hT
                      clear hT HT3
                      by_cases hin : i0 < n
                      · have C := HT4.out.reads hin (by have := HN.out.2; omega)
                        have hcell := fun W h => (HT4.out.later (w' := W) h).cell hin
                        generalize (hs.set j (sec (byteOf y) 0)).getD i0 none0 = x at C hcell
                        go_wp2_with fail
                        refine C.mono ?_
                        rintro e w7 ⟨rfl, hB7⟩
                        have hc7 := hcell _ hB7
                        have HT5 := Lib.hid (HT4.out.later hB7)
                        clear hB7 C hcell
                        go_wp2
                        go_roundw
                        case rel => exact ⟨i0 + 1, by omega, by go_num, HT5.out⟩
                        case measure => simp [intOf]; omega
                      · go_wp2_with fail
                        go_roundw
                        case rel => exact ⟨k + 1, _, _, by have := HK.out; omega, by have := HK.out; omega, by go_num, HT4.out⟩
                        case measure => have := HK.out; simp [intOf]; omega))
            · have HC1 : (if j < 0 ∨ (n : Int) ≤ j then (61 : Int) else 0) = 61 := by rw [if_pos (by omega)]
              have HC2 : ∀ x : ByteArray, (if (0 ≤ j ∧ j < n) ∧ x.size = 64 then s.lays j x else s) = s := fun x => by rw [if_neg (fun h => hr h.1)]
              have hcase : j < 0 ∨ (0 ≤ j ∧ (n : Int) ≤ j) := by omega
              clear hr
              rcases hcase with hr | ⟨hr1, hr2⟩
              all_goals (
                as_aux_lemma =>
                  go_wp2_with fail
                  go_region_held3 (fun w' => w'.cell? ⟨wr.heap.size, 1, none⟩ = some (.int .i64 j) ∧ w'.cell? ⟨wr.heap.size, 2, none⟩ = some (.int .u8 y))
                    (first | exact ⟨a1, a2⟩ | exact ⟨b1, b2⟩ | exact ⟨d1, d2⟩)
                    (first
                      | (go_at_call 21; refine (sector_int y z2 0 _).mono ?_; rintro e w4 ⟨rfl, hB4⟩; have HT4 := Lib.hid (HT2.out.later hB4); have Q4 := Lib.hid (keeps_of hB4 Q2.out); obtain ⟨b1, b2⟩ := op_cells Q4.out; clear hB4)
                      | (go_at_call 20; refine (write_any HT4.out.disk (by have := HT4.out.calm.made; have := HK.out; omega) j z1 _).mono ?_; rintro e w5 ⟨rfl, hd5, hs5⟩; rw [HT4.out.calm.writeE_is j (by rw [size_sec]; rfl), HC1]; rw [HT4.out.calm.write_is j, HC2 _] at hd5; have Q5 := Lib.hid (hs5.keep Q4.out (HT4.out.disk.not_cells Q4.out (by decide) (by decide))); obtain ⟨d1, d2⟩ := op_cells Q5.out; have HD5 := Lib.hid hd5; have HS5 := Lib.hid hs5; clear hd5 hs5))
                  all_goals (
                    have HT3 := Lib.hid (HT4.out.out HO.out HD5.out HS5.out)
                    clear a1 a2 b1 b2 HC2 HC1
                    have HM := Lib.hid HT3.out.calm
                    go_wp2_with fail
                    go_loopw [13] (fun i wr => ∃ i0 : Nat, i0 ≤ n ∧ i = .int .i64 i0 ∧ Told w b g m gh ch n (k + 1) s hs wr) (fun i _ => n - (intOf i).toNat)
                    case atStart => exact ⟨0, Nat.zero_le _, rfl, HT3.out⟩
                    case round =>
                      obtain ⟨i0, hi0, rfl, hT⟩ := hrel
                      have HT4 := Lib.hid hT
                      clear hT HT3
                      by_cases hin : i0 < n
                      · have C := HT4.out.reads hin (by have := HN.out.2; omega)
                        have hcell := fun W h => (HT4.out.later (w' := W) h).cell hin
                        generalize hs.getD i0 none0 = x at C hcell
                        go_wp2_with fail
                        refine C.mono ?_
                        rintro e w7 ⟨rfl, hB7⟩
                        have hc7 := hcell _ hB7
                        have HT5 := Lib.hid (HT4.out.later hB7)
                        clear hB7 C hcell
                        go_wp2
                        go_roundw
                        case rel => exact ⟨i0 + 1, by omega, by go_num, HT5.out⟩
                        case measure => simp [intOf]; omega
                      · go_wp2_with fail
                        go_roundw
                        case rel => exact ⟨k + 1, _, _, by have := HK.out; omega, by have := HK.out; omega, by go_num, HT4.out⟩
                        case measure => have := HK.out; simp [intOf]; omega))
        · have hcase : ¬ ((k : Int) < (l.length : Int)) ∨ ((k : Int) < (l.length : Int) ∧ ¬ (k : Int) < 200) := by omega
          clear hlt hk1 hk2
          rcases hcase with hge | ⟨hlt1, hge⟩
          all_goals (
            go_wp2_with fail
            refine (fixed_any _).mono ?_
            rintro e w5 ⟨rfl, hB5⟩
            have HB5 := Lib.hid (HT1.out.below.trans (hB5.mono HT1.out.below.size))
            clear hB5
            go_wp2
            go_ret
            exact ⟨rfl, HB5.out⟩)
set_option maxRecDepth 100000 in
/-- WHAT THE WALK GIVES, for every argument that can be read. -/
theorem contract (H : Type) (enc : TypeId × Value → H) (W : World) (base : Nat) (args : Array Value) (ds gs : List (DataW H)) (before : List MemPlace)
    (hval : ∀ (j : Nat) t v, Tryd.f7.params[j]? = some t → args[j]? = some v → Value.okWide Tryd.prog W .any base t v)
    (hW : DataW.Whole enc Tryd.prog Tryd.f7.params.toList Rows.diskReadsSpec.vars false W args.toList ds gs before)
    (hreach : (DataW.weightsEach Tryd.prog (Tryd.f7.params.toList) ds).all (· ≤ reachBytes) = true) :
    Calls Tryd.prog 7 args W fun e W' => ∃ v, e = .returned v ∧ Rows.diskReadsSpec.post enc Tryd.prog Tryd.f7 false true false false W args v W' := by
  have hW' := hW
  obtain ⟨p, q, hA0, hV, rfl, hfz, hnd⟩ := hW
  have hA : DataW.TrodAll enc Tryd.prog W 0 (fun _ => true) true Tryd.f7.params.toList args.toList ds p := hA0
  rw [Tryd.params7] at hA hval hreach
  obtain ⟨v0, v1, d0, d1, p0, p1, rfl, rfl, rfl, h0, h1⟩ := trodAll_two hA
  obtain ⟨rfl, rfl⟩ := trodVars_none hV
  obtain ⟨n0, rfl, rfl, rfl, wn0⟩ := open_int Tryd.underlying3 (hval 0 3 v0 rfl rfl) h0
  have r0 := int_range wn0
  have lt1 : ∀ x ∈ p1, x.block < W.heap.size := fun x hx => hW'.lt x (by simp [hx])
  obtain ⟨l1, k1, r1⟩ := ops_open (hval 1 35 v1 rfl rfl) h1 lt1 hreach (j := 1) rfl rfl
  clear hA0 hval
  simp only [List.append_nil] at hW'
  refine (walk n0 v1 l1 W r0 k1 r1).mono fun e W' ⟨he, hB⟩ => ?_
  subst he
  exact ⟨_, rfl, post_of_below (pa := [] ++ (p1)) (pv := []) hW' (fun _ _ _ => trodAll_mk1 (shut_bool Tryd.underlying4 _)) (fun sp hsp => trodAll_mk2 (shut_int Tryd.underlying3 wn0) (WideElems.Trod_stays laidOut (by kernel_rfl) (of_decide_eq_true (by kernel_rfl)) h1 (fun x hx => hB.same (lt1 x hx)) (fun x hx => hsp x (by simp [hx])))) (fun _ _ => rfl) (by simp) hB (ok_one (by kernel_rfl) rfl (okWide_bool_mk Tryd.underlying4 _))⟩

theorem reads (os : Os) {H : Type} (enc : TypeId × Value → H) : ∃ places, DataW.whole enc Tryd.prog ((laidWorld os).forCall (fun _ _ => 0) ⟨#[], #[.int .i64 0, .slice none 0 0], []⟩).memory Tryd.f7.params.toList Rows.diskReadsSpec.vars false (#[.int .i64 0, .slice none 0 0] : Array Value).toList 8 = some ([.lit (.int .i64 0), .nil], [], places) :=
  ⟨[], by kernel_rfl⟩

set_option maxRecDepth 100000 in
theorem lifted (os : Os) (started : os.Started) (H : Type) (enc : TypeId × Value → H) (F : Stop.Interp) :
    ReturnsInHanded {} Tryd.checked os 7 .any ((OpenSpec.ofChange Rows.diskReadsSpec).preRow enc Tryd.prog Tryd.f7 Rows.diskReadsRow.domain false Rows.diskReadsRow.laid) (((OpenSpec.ofChange Rows.diskReadsSpec).at F).post enc Tryd.prog Tryd.f7 false true false false) := by
  obtain ⟨places, hx⟩ := reads os enc
  refine returnsInHanded_of_row (C := Tryd.checked) (s := OpenSpec.ofChange Rows.diskReadsSpec) own started (by kernel_rfl) Tryd.func7
    (witness_row_at (enc := enc) (C := Tryd.checked) false (laidWorld os) #[.int .i64 0, .slice none 0 0] rfl (by kernel_rfl) (by kernel_rfl) (by kernel_rfl)
      (OpenSpec.preRow_of_cond 8 hx (by kernel_rfl) (fun k hk => by cases hk) (by kernel_rfl) (laid_met os _))) ?_
  intro W base args ds gs before hval hW _ hcond hreach hL _ _
  obtain ⟨p, q, hA0, hV, hpq, hfz, hnd⟩ := id hW
  obtain ⟨rfl, _⟩ := trodVars_none hV
  rw [List.append_nil] at hreach
  exact contract H enc W base args ds [] before hval hW hreach

theorem said : Rows.DiskReadsSaid :=
  OpenClaim.holds_of_cond 7 Tryd.f7 rfl rfl rfl rfl rfl rfl rfl ⟨rfl, rfl, rfl, rfl, rfl⟩ rfl rfl rfl rfl rfl (by kernel_rfl) Tryd.func7 (by kernel_rfl)
    (of_decide_eq_true (by kernel_rfl)) (by unfold Func.isWrapper; first | (rw [if_pos (by decide +kernel)]; kernel_rfl) | (rw [if_neg (by decide +kernel)]; exact ⟨rfl, rfl⟩))
    (fun os started H enc _ F => by rw [OpenClaim.pre_eq_preRow]; exact lifted os started H enc F)

theorem plain (f : FuncId) (fn : Func) (hf : Tryd.pinned.checked.prog.funcNamed "stillage/stillagelaw06.DiskReads" = some f) (hfn : Tryd.pinned.checked.prog.funcs[f]? = some fn) :
    true = Tryd.pinned.checked.prog.looks [] ∧ ∀ (j : Nat) t, fn.params[j]? = some t → Tryd.pinned.checked.prog.wantsStandIn t = false := by
  obtain rfl : f = 7 := Option.some.inj ((show Tryd.prog.funcNamed "stillage/stillagelaw06.DiskReads" = some 7 by kernel_rfl).symm.trans hf) |>.symm
  obtain rfl : fn = Tryd.f7 := (Option.some.inj (Tryd.func7.symm.trans hfn)).symm
  refine ⟨by kernel_rfl, fun j t ht => ?_⟩
  rw [Tryd.params7] at ht
  have hm : t ∈ [3, 35] := by simpa using Array.mem_of_getElem? ht
  have hall : ([3, 35].all fun u => !Tryd.prog.wantsStandIn u) = true := by kernel_rfl
  exact (show Tryd.prog.wantsStandIn t = false by simpa using List.all_eq_true.1 hall t hm)

/-- THE CARD -/
theorem card : Rows.DiskReadsCardSaid :=
  Claim7.holds_tied_plain_at .later [] _ _ _ _ said (fun _ h => by cases h) (by kernel_rfl) (fun _ h => by cases h) diskReads_row_tie rfl ⟨rfl, rfl⟩ (by kernel_rfl) rfl plain (by kernel_rfl)


end Go.Proofs.YtickjomnmifmjaaDoor.reads
