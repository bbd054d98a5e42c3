/-
  TreN / TreO.
-/
import Derived.Test.YtmloljjllmmkoaaGreatTK
import Derived.Test.YtmloljjllmmkoaaGreatAX
import Derived.Deep.RegionLaw
import Derived.OwnWalk
import Derived.Deep.RegionHeld3
namespace Go.Proofs.YtmloljjllmmkoaaGreat
open Go.ChangeShapes Go.WideShapes Go.ChangeAt Go.RowKit Go.Shelf Go Go.Maps SM PL AL TR

theorem TB.not_pool {w0 w : World} {l b g m c pl n f k : Nat} {u : List UInt8} {M : Mem} {W P : Nat → Prop} {x : VS} (h : TB w0 l b g m c pl u n f k M W x P w) {i : Nat} {C : Array Value} {e : TypeId} {fz : Nat × Nat} (hC : w.heap[i]? = some (.cells C e fz)) (he : e ≠ 140 ∧ e ≠ 9 ∧ e ≠ 3) : ¬ P i := fun hP => by
  obtain ⟨C', e', f', h1, h2⟩ := h.pool.kinds hP
  have := kind_eq hC h1
  subst this
  rcases h2 with h2 | h2 | h2
  · exact he.1 h2
  · exact he.2.1 h2
  · exact he.2.2 h2
theorem fx_ord11 : (ord [] 20 1).drop 0 = [1, 2, 3, 4, 5, 6, 7, 8, 9, 10, 11, 12, 13, 14, 15, 16, 17, 18, 19] := by decide +kernel
def z480 : List UInt8 := List.replicate 480 0
def z300 : List UInt8 := List.replicate 300 0
theorem len48 : z480.length = 480 := List.length_replicate
theorem len30 : z300.length = 300 := List.length_replicate
theorem fx_one (M : Mem) : (storeLv (decide ((rowsL 480).length = 0)) (rowsL 480) true [] [] z480 M [1, 2, 3, 4, 5, 6, 7, 8, 9, 10, 11, 12, 13, 14, 15, 16, 17, 18, 19]).ok = true ∧ (storeLv (decide ((rowsL 480).length = 0)) (rowsL 480) true [] [] z480 M [1, 2, 3, 4, 5, 6, 7, 8, 9, 10, 11, 12, 13, 14, 15, 16, 17, 18, 19]).lv = [[1, 2], [3]] := ⟨by kernel_rfl, by kernel_rfl⟩
theorem fx_two (M : Mem) : (storeLv (decide ((rowsL 300).length = 2)) (rowsL 300) true [[1, 2], [3]] z480 z300 M [4, 5, 6, 7, 8, 9, 10, 11, 12, 13, 14, 15, 16, 17, 18, 19]).ok = true ∧ (storeLv (decide ((rowsL 300).length = 2)) (rowsL 300) true [[1, 2], [3]] z480 z300 M [4, 5, 6, 7, 8, 9, 10, 11, 12, 13, 14, 15, 16, 17, 18, 19]).lv = [[1, 4], [5]] := ⟨by kernel_rfl, by kernel_rfl⟩
theorem fx_sum : (rowsL 14401).sum = 64 ∧ (rowsL 480).sum = 3 ∧ (rowsL 300).sum = 3 := by decide +kernel
theorem nought_list (k : Nat) : (nought k).data.toList = List.replicate k 0 := by
  apply List.ext_getElem
  · rw [len_of, size_nought]; simp
  · intro i h1 h2
    simp [nought]
section
variable {w0 w : World} {l b g m c pl : Nat} {M : Mem} {P : Nat → Prop} {x : VS}
theorem fx_storeA (h : TB w0 l b g m c pl [] 20 1 0 M (fun _ => False) x P w) :
    Calls Tryz.prog 35 #[srcV l, .agg #[.int .i64 0, .int .i64 0], .string (nought 480), .pointer (some ⟨pl, 0, none⟩)] w fun e w' => ∃ (x' : VS) (P' : Nat → Prop) (M' : Mem), e = .returned (.tuple #[.agg #[.int .i64 3, .int .i64 480], .int .i64 0]) ∧ TB w0 l b g m c pl [] 20 1 3 M' (fun _ => False) x' P' w' ∧ TT [] 20 1 3 M' (fun _ => False) [[1, 2], [3]] z480 := by
  have hl : (nought 480).data.toList = z480 := nought_list 480
  have C := h.store (TT.nil [] 20 1 0 M (fun _ => False) (fun _ h => h.elim)) (nought 480) (by rw [size_nought]; omega) rfl
  rw [size_nought, hl, fx_ord11, List.length_nil] at C
  obtain ⟨f1, f2⟩ := fx_one M
  generalize storeLv (decide ((rowsL 480).length = 0)) (rowsL 480) true [] [] z480 M [1, 2, 3, 4, 5, 6, 7, 8, 9, 10, 11, 12, 13, 14, 15, 16, 17, 18, 19] = R at *
  refine (C : Calls Tryz.prog 35 #[srcV l, .agg #[.int .i64 0, .int .i64 0], .string (nought 480), .pointer (some ⟨pl, 0, none⟩)] w _).mono ?_
  rintro e w' ⟨t, x', P', o, h1, h2, h3, h4⟩
  rcases h4 with ⟨_, rfl⟩ | ⟨e0, _⟩
  · have ht : t = 3 := by
      have h5 := o.count f1
      have h6 : (rowsL z480.length).sum = 3 := by rw [len48]; exact fx_sum.2.1
      rw [h6] at h5
      simpa using h5
    subst ht
    have hT := (TT.nil [] 20 1 0 M (fun _ => False) (fun _ h => h.elim)).store (bt := z480) (by rw [len48]; omega) (by rw [fx_ord11]; exact o) f1
    rw [f2] at hT
    refine ⟨x', P', R.mem, ?_, h1, hT⟩
    rw [f2]
    rfl
  · rw [f1] at e0; cases e0
theorem fx_storeB (h : TB w0 l b g m c pl [] 20 1 3 M (fun _ => False) x P w) (ht : TT [] 20 1 3 M (fun _ => False) [[1, 2], [3]] z480) :
    Calls Tryz.prog 35 #[srcV l, .agg #[.int .i64 3, .int .i64 480], .string (nought 300), .pointer (some ⟨pl, 0, none⟩)] w fun e w' => ∃ (x' : VS) (P' : Nat → Prop) (M' : Mem), e = .returned (.tuple #[.agg #[.int .i64 5, .int .i64 300], .int .i64 0]) ∧ TB w0 l b g m c pl [] 20 1 5 M' (fun _ => False) x' P' w' ∧ TT [] 20 1 5 M' (fun _ => False) [[1, 4], [5]] z300 ∧ KK P w w' := by
  have hl : (nought 300).data.toList = z300 := nought_list 300
  have h48 := len48
  have hfr : (ord [] 20 1).drop 3 = [4, 5, 6, 7, 8, 9, 10, 11, 12, 13, 14, 15, 16, 17, 18, 19] := by
    have := congrArg (List.drop 3) fx_ord11
    rw [List.drop_drop] at this
    exact this
  have C := h.store ht (nought 300) (by rw [size_nought]; omega) rfl
  rw [size_nought, hl, hfr, h48] at C
  obtain ⟨f1, f2⟩ := fx_two M
  have C' : Calls Tryz.prog 35 #[srcV l, .agg #[.int .i64 3, .int .i64 480], .string (nought 300), .pointer (some ⟨pl, 0, none⟩)] w _ := C
  have e2 : ([[1, 2], [3]] : List (List Nat)).length = 2 := rfl
  rw [e2] at C'
  generalize storeLv (decide ((rowsL 300).length = 2)) (rowsL 300) true [[1, 2], [3]] z480 z300 M [4, 5, 6, 7, 8, 9, 10, 11, 12, 13, 14, 15, 16, 17, 18, 19] = R at *
  refine C'.mono ?_
  rintro e w' ⟨t, x', P', o, h1, h2, h3, h4⟩
  rcases h4 with ⟨_, rfl⟩ | ⟨e0, _⟩
  · have htt : t = 2 := by
      have h5 := o.count f1
      have h6 : (rowsL z300.length).sum = 3 := by rw [len30]; exact fx_sum.2.2
      rw [h6, f2] at h5
      have h7 : ([[1, 4], [5]] : List (List Nat)).flatten.countP (fun y => decide (y ∈ ([[1, 2], [3]] : List (List Nat)).flatten)) = 1 := by decide
      rw [h7] at h5
      omega
    subst htt
    have hT := ht.store (bt := z300) (by rw [len30]; omega) (by rw [hfr]; exact o) f1
    rw [f2] at hT
    refine ⟨x', P', R.mem, ?_, h1, hT, h2⟩
    rw [f2]
    rfl
  · rw [f1] at e0; cases e0
theorem fx_load (h : TB w0 l b g m c pl [] 20 1 5 M (fun _ => False) x P w) (ht : TT [] 20 1 5 M (fun _ => False) [[1, 4], [5]] z300) :
    Calls Tryz.prog 7 #[srcV l, .agg #[.int .i64 5, .int .i64 300]] w fun e w' => ∃ x', e = .returned (.tuple #[.string (nought 300), .int .i64 0]) ∧ TB w0 l b g m c pl [] 20 1 5 M (fun _ => False) x' P w' ∧ VKeep w w' := by
  have C := h.load ht
  rw [len30, show bsL z300 = nought 300 from rfl] at C
  refine (C : Calls Tryz.prog 7 #[srcV l, .agg #[.int .i64 5, .int .i64 300]] w _).mono ?_
  rintro e w' ⟨rfl, x', h1, h2⟩
  exact ⟨x', rfl, h1, h2⟩
theorem fx_reach (h : TB w0 l b g m c pl [] 20 1 5 M (fun _ => False) x P w) (ht : TT [] 20 1 5 M (fun _ => False) [[1, 4], [5]] z300) :
    Calls Tryz.prog 9 #[srcV l, .agg #[.int .i64 5, .int .i64 300]] w fun e w' => ∃ x' v, e = .returned (.tuple #[v, .int .i64 0]) ∧ w'.ownsRow w.heap.size 3 1 v 3 (ints [5, 1, 4]) ∧ TB w0 l b g m c pl [] 20 1 5 M (fun _ => False) x' P w' ∧ VKeep w w' := by
  have C := h.reach ht
  rw [len30, show orderT [[1, 4], [5]] = [5, 1, 4] by decide] at C
  refine (C : Calls Tryz.prog 9 #[srcV l, .agg #[.int .i64 5, .int .i64 300]] w _).mono ?_
  rintro e w' ⟨v, rfl, hr, x', h1, h2⟩
  exact ⟨x', v, rfl, hr, h1, h2⟩
theorem fx_bad (h : TB w0 l b g m c pl [] 20 1 5 M (fun _ => False) x P w) :
    Calls Tryz.prog 7 #[srcV l, .agg #[.int .i64 1, .int .i64 0]] w fun e w' => e = .returned (.tuple #[.string ⟨#[]⟩, .int .i64 110]) ∧ TB w0 l b g m c pl [] 20 1 5 M (fun _ => False) x P w' ∧ VKeep w w' := by
  have C := loadT_any h.vw 1 0 ⟨by decide, by decide⟩ ⟨by decide, by decide⟩
  have e : ndBlob true x 1 0 = ⟨110, [], x⟩ := by rw [ndBlob, if_pos (by decide)]
  rw [e] at C
  refine C.mono ?_
  rintro e w' ⟨rfl, h1, h2⟩
  exact ⟨rfl, h.vkeep h1 h.calm rfl h2, h2⟩
end
theorem fx_way {w0 w : World} {l b g m c pl k o5 o8 : Nat} {M : Mem} {P W : Nat → Prop} {x : VS} {u : List UInt8} {n f : Nat} {A : Array Value} (h : TB w0 l b g m c pl u n f k M W x P w) (hA : w.heap[o5]? = some (.cells A 24 (0, 0))) (hne : o5 ≠ o8) (h8 : w.heap[o8]? = some (.cells #[.int .i64 0, .int .i64 0] 24 (0, 0))) (hle : w0.heap.size ≤ o8) (z0 z1 : Value) :
    TB w0 l b g m c pl u n f k M W x P ((w.setCell ⟨o8, 0, none⟩ z0).setCell ⟨o8, 1, none⟩ z1) ∧ ((w.setCell ⟨o8, 0, none⟩ z0).setCell ⟨o8, 1, none⟩ z1).heap[o5]? = some (.cells A 24 (0, 0)) ∧ ((w.setCell ⟨o8, 0, none⟩ z0).setCell ⟨o8, 1, none⟩ z1).heap[o8]? = some (.cells #[z0, z1] 24 (0, 0)) := by
  have hs : Stir (fun j => j = o8) w ((w.setCell ⟨o8, 0, none⟩ z0).setCell ⟨o8, 1, none⟩ z1) := ((Stir.refl (fun j => j = o8) w).set (b := o8) (.inl rfl) z0).set (b := o8) (.inl rfl) z1
  refine ⟨h.own hs (fun i hi => ?_), heap_set_other (heap_set_other hA hne _) hne _, by rw [heap_set (heap_set h8 z0)]; rfl⟩
  subst hi
  exact ⟨hle, ⟨_, _, _, h8, by unfold VK; decide⟩, h.not_pool h8 (by decide)⟩
theorem conv_made (W : World) (q k : Nat) {f : Nat × Nat} (h : W.heap[q]? = some (.cells (madeCells #[.int .u8 0] k) 5 f)) :
    (convert 85 9 (.slice (some ⟨q, 0, none⟩) k k)).run Tryz.prog W = .ok (.string (nought k)) W := by
  have h1 := run_convert_bytes_back W 85 9 5 ⟨q, 0, none⟩ k (List.replicate k 0) Tryz.underlying85 Tryz.underlying5 Tryz.underlying9 (fun j hj => by
    have hj' : j < k := by simpa using hj
    rw [Addr.add_lit, Nat.zero_add]
    simp only [World.cell?, h]
    simp [madeCells, hj', Nat.mod_one])
  rw [List.length_replicate] at h1
  exact h1
theorem fx_len : (ord [] 20 1).length = 19 := by decide +kernel
theorem fx_left {w0 w : World} {l b g m c pl : Nat} {M : Mem} {P : Nat → Prop} {x : VS} (h : TB w0 l b g m c pl [] 20 1 3 M (fun _ => False) x P w) :
    Calls Tryz.prog 36 #[.pointer (some ⟨pl, 0, none⟩)] w fun e w' => e = .returned (.int .i64 16) ∧ w = w' := by
  have C := h.left
  rw [fx_len] at C
  exact C
theorem fx_left2 {w0 w : World} {l b g m c pl : Nat} {M : Mem} {P : Nat → Prop} {x : VS} (h : TB w0 l b g m c pl [] 20 1 5 M (fun _ => False) x P w) :
    Calls Tryz.prog 36 #[.pointer (some ⟨pl, 0, none⟩)] w fun e w' => e = .returned (.int .i64 14) ∧ w = w' := by
  have C := h.left
  rw [fx_len] at C
  exact C
theorem fx_shape (w : World) : Calls Tryz.prog 37 #[.int .i64 14401] w fun e w' => e = .returned (.tuple #[.int .i64 64, .int .i64 0]) ∧ w = w' := by
  have C := shape_any 14401 w
  rw [show shapeV 14401 = .tuple #[.int .i64 64, .int .i64 0] by
    unfold shapeV
    rw [if_neg (by omega), show (14401 : Int).toNat = 14401 from rfl, fx_sum.1]
    rfl] at C
  exact C
theorem fx_shape2 (w : World) : Calls Tryz.prog 37 #[.int .i64 (-1)] w fun e w' => e = .returned (.tuple #[.int .i64 0, .int .i64 111]) ∧ w = w' := by
  have C := shape_any (-1) w
  rwa [show shapeV (-1) = .tuple #[.int .i64 0, .int .i64 111] by unfold shapeV; rw [if_pos (by omega)]] at C
set_option maxRecDepth 100000 in
set_option maxHeartbeats 8000000 in
theorem fixed11_any (w : World) :
    Calls Tryz.prog 11 #[] w fun e w' => e = .returned (.bool true) ∧ Below w.heap.size w w' := by
  have CL := fun w => laid_tree 20 (by omega) (by omega) w
  have CN := fun w => pool_new 20 (by omega) (by omega) w
  have CL' : ∀ w, Calls Tryz.prog 4 #[.int .i64 20] w _ := CL
  have CN' : ∀ w, Calls Tryz.prog 34 #[.string ⟨#[]⟩, .int .i64 20, .int .i64 1] w _ := CN
  clear CL CN
  go_enter Tryz.func11, Tryz.ntmps11
  go_wp2_with fail
  refine (CL' _).mono ?_
  rintro e w1 ⟨l, b, g, m, c, r, q, d, rfl, hl⟩
  have HL := Lib.hid hl
  clear hl CL'
  go_wp2_with fail
  refine (CN' _).mono ?_
  rintro e w2 ⟨pl, rfl, ⟨F, hp⟩, hB2⟩
  have H2 := Lib.hid (TB.start HL.out (by omega) (by omega) hB2 hp (fun _ => []))
  clear hp hB2 CN'
  obtain ⟨m1, m2⟩ := made_text w2 480 (by omega)
  have m1' : (Instr.makeSlice 85 (.int .i64 480) (.int .i64 480)).run Tryz.prog w2 = _ := m1
  obtain ⟨w3, hw3⟩ : ∃ w3, w2.alloc (.cells (madeCells #[.int .u8 0] 480) 5) = w3 := ⟨_, rfl⟩
  rw [hw3] at m1' m2
  have hB3 : Below w2.heap.size w2 w3 := by rw [← hw3]; exact (Below.refl _ w2).alloc (Nat.le_refl _) _
  have C1 := fx_storeA (H2.out.later hB3)
  generalize nought 480 = N480 at *
  clear m1 hw3 hB3
  unfold srcV at C1
  go_wp2_with fail
  refine C1.mono ?_
  rintro e w4 ⟨x4, P4, M4, rfl, h4, ht4⟩
  have H4 := Lib.hid h4
  have HT4 := Lib.hid ht4
  clear h4 ht4 C1 m1' m2
  obtain ⟨w5, hw5⟩ : ∃ w5, w4.alloc (.cells #[.int .i64 3, .int .i64 480] 24) = w5 := ⟨_, rfl⟩
  have hB5 : Below w4.heap.size w4 w5 := by rw [← hw5]; exact (Below.refl _ w4).alloc (Nat.le_refl _) _
  have hob5 : w5.heap[w4.heap.size]? = some (.cells #[.int .i64 3, .int .i64 480] 24 (0, 0)) := by rw [← hw5]; exact heap_alloc_new _ _
  have H5 := Lib.hid (H4.out.later hB5)
  have HO5 := Lib.hid hob5
  have CLf := fx_left H5.out
  have a0 : w5.cell? ⟨w4.heap.size, 0, none⟩ = some (.int .i64 3) := by simp [World.cell?, hob5]
  have a1 : w5.cell? ⟨w4.heap.size, 1, none⟩ = some (.int .i64 480) := by simp [World.cell?, hob5]
  obtain ⟨o5, ho5⟩ : ∃ o5, w4.heap.size = o5 := ⟨_, rfl⟩
  rw [ho5] at HO5 a0 a1
  clear hB5 hob5 H4
  go_wp2_with fail
  refine CLf.mono ?_
  rintro e w' ⟨rfl, rfl⟩
  clear CLf hw5 ho5
  have C2 := fun W (hW : TB w l b g m c pl [] 20 1 3 M4 (fun _ => False) x4 P4 W) => fx_storeB hW HT4.out
  have hB0 : ∀ (v : World) (o : Obj), Below v.heap.size v (v.alloc o) := fun v o => (Below.refl _ v).alloc (Nat.le_refl _) o
  obtain ⟨v1, hv1⟩ : ∃ v1, w5.alloc (.cells (madeCells #[.int .u8 0] 300) 5) = v1 := ⟨_, rfl⟩
  obtain ⟨v2, hv2⟩ : ∃ v2, v1.alloc (.cells #[.int .i64 0, .int .i64 0] 24) = v2 := ⟨_, rfl⟩
  obtain ⟨v3, hv3⟩ : ∃ v3, w5.alloc (.cells #[.int .i64 0, .int .i64 0] 24) = v3 := ⟨_, rfl⟩
  obtain ⟨v4, hv4⟩ : ∃ v4, v3.alloc (.cells (madeCells #[.int .u8 0] 300) 5) = v4 := ⟨_, rfl⟩
  have hB1 : Below w5.heap.size w5 v1 := by rw [← hv1]; exact hB0 _ _
  have hB2 : Below w5.heap.size w5 v2 := by rw [← hv2]; exact hB1.trans ((hB0 _ _).mono hB1.size)
  have hB3 : Below w5.heap.size w5 v3 := by rw [← hv3]; exact hB0 _ _
  have hB4 : Below w5.heap.size w5 v4 := by rw [← hv4]; exact hB3.trans ((hB0 _ _).mono hB3.size)
  have hlt5 := lt_of_heap HO5.out
  have a0v1 := (hB1.cell (p := ⟨o5, 0, none⟩) hlt5).trans a0
  have a1v1 := (hB1.cell (p := ⟨o5, 1, none⟩) hlt5).trans a1
  have a0v2 := (hB2.cell (p := ⟨o5, 0, none⟩) hlt5).trans a0
  have a1v2 := (hB2.cell (p := ⟨o5, 1, none⟩) hlt5).trans a1
  have a0v3 := (hB3.cell (p := ⟨o5, 0, none⟩) hlt5).trans a0
  have a1v3 := (hB3.cell (p := ⟨o5, 1, none⟩) hlt5).trans a1
  have a0v4 := (hB4.cell (p := ⟨o5, 0, none⟩) hlt5).trans a0
  have a1v4 := (hB4.cell (p := ⟨o5, 1, none⟩) hlt5).trans a1
  have m1 : (Instr.makeSlice 85 (.int .i64 300) (.int .i64 300)).run Tryz.prog w5.drew = .ok (.slice (some ⟨w5.heap.size, 0, none⟩) 300 300) v1.drew := by rw [← hv1]; exact (made_text w5.drew 300 (by omega)).1
  have m3 : (Instr.makeSlice 85 (.int .i64 300) (.int .i64 300)).run Tryz.prog v3.drew = .ok (.slice (some ⟨v3.heap.size, 0, none⟩) 300 300) v4.drew := by rw [← hv4]; exact (made_text v3.drew 300 (by omega)).1
  have t1 : (convert 85 9 (.slice (some ⟨w5.heap.size, 0, none⟩) 300 300)).run Tryz.prog v1.drew = .ok (.string (nought 300)) v1.drew := by rw [← hv1]; exact (made_text w5.drew 300 (by omega)).2
  have t4 : (convert 85 9 (.slice (some ⟨v3.heap.size, 0, none⟩) 300 300)).run Tryz.prog v4.drew = .ok (.string (nought 300)) v4.drew := by rw [← hv4]; exact (made_text v3.drew 300 (by omega)).2
  have t2 : (convert 85 9 (.slice (some ⟨w5.heap.size, 0, none⟩) 300 300)).run Tryz.prog v2.drew = .ok (.string (nought 300)) v2.drew := conv_made _ _ 300 (by
    show v2.heap[w5.heap.size]? = _
    rw [← hv2]
    exact heap_alloc_old (by rw [← hv1]; exact heap_alloc_new _ _) _)
  have h82 : v2.heap[v1.heap.size]? = some (.cells #[.int .i64 0, .int .i64 0] 24 (0, 0)) := by rw [← hv2]; exact heap_alloc_new _ _
  have h84 : v4.heap[w5.heap.size]? = some (.cells #[.int .i64 0, .int .i64 0] 24 (0, 0)) := by rw [← hv4]; exact heap_alloc_old (by rw [← hv3]; exact heap_alloc_new _ _) _
  have HB1 := Lib.hid hB1
  have HB2 := Lib.hid hB2
  have HB4 := Lib.hid hB4
  have H82 := Lib.hid h82
  have H84 := Lib.hid h84
  obtain ⟨N300, hN⟩ : ∃ N300, nought 300 = N300 := ⟨_, rfl⟩
  rw [hN] at t1 t2 t4
  have HN := Lib.hid hN
  have C21 := C2 _ (H5.out.later (hB1.drew))
  have C22 := C2 _ (H5.out.later (hB2.drew))
  have C24 := C2 _ (H5.out.later (hB4.drew))
  rw [hN] at C21 C22 C24
  clear hN
  unfold srcV at C21 C22 C24
  clear hB0 hB1 hB2 hB3 hB4 hlt5 h82 h84 C2
  go_upto_region 7 with fail
  go_cut [8, 9] from 50 to 59 (fun bv ev wx => ∃ (o8 : Nat) (x7 : VS) (P7 : Nat → Prop) (M7 : Mem), bv = .pointer (some ⟨o8, 0, none⟩) ∧ ev = .int .i64 0 ∧ Hid (TB w l b g m c pl [] 20 1 5 M7 (fun _ => False) x7 P7 wx) ∧ Hid (TT [] 20 1 5 M7 (fun _ => False) [[1, 4], [5]] z300) ∧ Hid (wx.heap[o5]? = some (.cells #[.int .i64 3, .int .i64 480] 24 (0, 0))) ∧ Hid (wx.heap[o8]? = some (.cells #[.int .i64 5, .int .i64 300] 24 (0, 0))))
  case first =>
    go_region_law (first
      | (go_simp; go_at_call 35; refine C21.mono ?_; rintro e w7 ⟨x7, P7, M7, rfl, h7, ht7, hk7⟩; have H7 := Lib.hid h7; have HT7 := Lib.hid ht7; have HO7 := Lib.hid (hk7.keep (show v1.drew.heap[o5]? = _ from keeps_of HB1.out.drew HO5.out) (by unfold VK; decide) ((H5.out.later HB1.out.drew).not_pool (show v1.drew.heap[o5]? = _ from keeps_of HB1.out.drew HO5.out) (by decide))); clear h7 ht7 hk7)
      | (go_simp; go_at_call 35; refine C22.mono ?_; rintro e w7 ⟨x7, P7, M7, rfl, h7, ht7, hk7⟩; have H7 := Lib.hid h7; have HT7 := Lib.hid ht7; have HO7 := Lib.hid (hk7.keep (show v2.drew.heap[o5]? = _ from keeps_of HB2.out.drew HO5.out) (by unfold VK; decide) ((H5.out.later HB2.out.drew).not_pool (show v2.drew.heap[o5]? = _ from keeps_of HB2.out.drew HO5.out) (by decide))); have h87 := hk7.keep (show v2.drew.heap[v1.heap.size]? = _ from H82.out) (by unfold VK; decide) ((H5.out.later HB2.out.drew).not_pool (show v2.drew.heap[v1.heap.size]? = _ from H82.out) (by decide)); have H87 := Lib.hid h87; have k0 : w7.cell? ⟨v1.heap.size, 0, none⟩ = some (.int .i64 0) := (by simp [World.cell?, h87]); have k1 : w7.cell? ⟨v1.heap.size, 1, none⟩ = some (.int .i64 0) := (by simp [World.cell?, h87]); have z0 : w7.frozen? ⟨v1.heap.size, 0, none⟩ = false := (by simp [World.frozen?, h87]); have z1 : w7.frozen? ⟨v1.heap.size, 1, none⟩ = false := (by simp [World.frozen?, h87]); clear h7 ht7 hk7 h87)
      | (go_simp; go_at_call 35; refine C24.mono ?_; rintro e w7 ⟨x7, P7, M7, rfl, h7, ht7, hk7⟩; have H7 := Lib.hid h7; have HT7 := Lib.hid ht7; have HO7 := Lib.hid (hk7.keep (show v4.drew.heap[o5]? = _ from keeps_of HB4.out.drew HO5.out) (by unfold VK; decide) ((H5.out.later HB4.out.drew).not_pool (show v4.drew.heap[o5]? = _ from keeps_of HB4.out.drew HO5.out) (by decide))); have h87 := hk7.keep (show v4.drew.heap[w5.heap.size]? = _ from H84.out) (by unfold VK; decide) ((H5.out.later HB4.out.drew).not_pool (show v4.drew.heap[w5.heap.size]? = _ from H84.out) (by decide)); have H87 := Lib.hid h87; have k0 : w7.cell? ⟨w5.heap.size, 0, none⟩ = some (.int .i64 0) := (by simp [World.cell?, h87]); have k1 : w7.cell? ⟨w5.heap.size, 1, none⟩ = some (.int .i64 0) := (by simp [World.cell?, h87]); have z0 : w7.frozen? ⟨w5.heap.size, 0, none⟩ = false := (by simp [World.frozen?, h87]); have z1 : w7.frozen? ⟨w5.heap.size, 1, none⟩ = false := (by simp [World.frozen?, h87]); clear h7 ht7 hk7 h87))
    all_goals (go_wp2_with fail; go_meet; first
      | exact ⟨_, _, _, _, rfl, rfl, Lib.hid (H7.out.later ((Below.refl _ _).alloc (Nat.le_refl _) _)), HT7, Lib.hid (heap_alloc_old HO7.out _), Lib.hid (heap_alloc_new _ _)⟩
      | (obtain ⟨y1, y2, y3⟩ := fx_way H7.out HO7.out (ne_of_heap HO7.out H87.out (by simp)) H87.out (by have h1 := H5.out.vw.below.size; have h2 := HB1.out.size; omega) (.int .i64 5) (.int .i64 300); exact ⟨_, _, _, _, rfl, rfl, Lib.hid y1, HT7, Lib.hid y2, Lib.hid y3⟩))
  case rest =>
    clear C21 C22 C24 m1 m3 t1 t2 t4 a0 a1 a0v1 a1v1 a0v2 a1v2 a0v3 a1v3 a0v4 a1v4 H82 H84 hv1 hv2 hv3 hv4
    obtain ⟨o8, x7, P7, M7, rfl, rfl, H7, HT7, HO7, H87⟩ := hcut
    have c0 : wc.cell? ⟨o8, 0, none⟩ = some (.int .i64 5) := by simp [World.cell?, H87.out]
    have c1 : wc.cell? ⟨o8, 1, none⟩ = some (.int .i64 300) := by simp [World.cell?, H87.out]
    have CLd := fx_load H7.out HT7.out
    rw [HN.out] at CLd
    unfold srcV at CLd
    go_wp2_with fail
    refine CLd.mono ?_
    rintro e w8 ⟨x8, rfl, h8, hk8⟩
    have H8 := Lib.hid h8
    have HO8 := Lib.hid (hk8.kept HO7.out (by unfold VK; decide))
    have HQ8 := Lib.hid (hk8.kept H87.out (by unfold VK; decide))
    clear h8 hk8 CLd c0 c1
    have c0 : w8.cell? ⟨o8, 0, none⟩ = some (.int .i64 5) := by simp [World.cell?, HQ8.out]
    have c1 : w8.cell? ⟨o8, 1, none⟩ = some (.int .i64 300) := by simp [World.cell?, HQ8.out]
    have CR := fx_reach H8.out HT7.out
    unfold srcV at CR
    go_wp2_with fail
    refine CR.mono ?_
    rintro e w9 ⟨x9, vr, rfl, hi9, h9, hk9⟩
    obtain ⟨ar, capr, rfl⟩ := row_shape hi9
    have H9 := Lib.hid h9
    have HI9 := Lib.hid hi9
    have HO9 := Lib.hid (hk9.kept HO8.out (by unfold VK; decide))
    have HQ9 := Lib.hid (hk9.kept HQ8.out (by unfold VK; decide))
    clear h9 hi9 hk9 CR c0 c1
    have CB := fx_bad H9.out
    unfold srcV at CB
    go_wp2_with fail
    refine CB.mono ?_
    rintro e w10 ⟨rfl, h10, hk10⟩
    have H10 := Lib.hid h10
    have HI10 := Lib.hid (vkeep_row hk10 (by unfold VK; decide) HI9.out)
    have HO10 := Lib.hid (hk10.kept HO9.out (by unfold VK; decide))
    have HQ10 := Lib.hid (hk10.kept HQ9.out (by unfold VK; decide))
    clear h10 hk10 CB
    go_wp2_with fail
    refine (fx_shape _).mono ?_
    rintro e w' ⟨rfl, rfl⟩
    go_wp2_with fail
    refine (fx_shape2 _).mono ?_
    rintro e w' ⟨rfl, rfl⟩
    have a0 : w10.cell? ⟨o5, 0, none⟩ = some (.int .i64 3) := by simp [World.cell?, HO10.out]
    have a1 : w10.cell? ⟨o5, 1, none⟩ = some (.int .i64 480) := by simp [World.cell?, HO10.out]
    have c0 : w10.cell? ⟨o8, 0, none⟩ = some (.int .i64 5) := by simp [World.cell?, HQ10.out]
    have c1 : w10.cell? ⟨o8, 1, none⟩ = some (.int .i64 300) := by simp [World.cell?, HQ10.out]
    have CLf := fx_left2 H10.out
    obtain ⟨v5, hv5⟩ : ∃ v5, w10.alloc (.cells (madeCells #[.int .u8 0] 300) 5) = v5 := ⟨_, rfl⟩
    have hB5 : Below w10.heap.size w10 v5 := by rw [← hv5]; exact (Below.refl _ _).alloc (Nat.le_refl _) _
    have m5 : (Instr.makeSlice 85 (.int .i64 300) (.int .i64 300)).run Tryz.prog w10 = .ok (.slice (some ⟨w10.heap.size, 0, none⟩) 300 300) v5 := by rw [← hv5]; exact (made_text w10 300 (by omega)).1
    have t5 : (convert 85 9 (.slice (some ⟨w10.heap.size, 0, none⟩) 300 300)).run Tryz.prog v5 = .ok (.string N300) v5 := by rw [← hv5, ← HN.out]; exact (made_text w10 300 (by omega)).2
    obtain ⟨v6, hv6⟩ : ∃ v6, v5.alloc (.cells #[.int .i64 5, .int .i64 1, .int .i64 4] 3) = v6 := ⟨_, rfl⟩
    have hB6 : Below w10.heap.size w10 v6 := by rw [← hv6]; exact hB5.trans (((Below.refl _ _).alloc (Nat.le_refl _) _).mono hB5.size)
    have CS := same_any (.slice ar 3 capr) (.slice (some ⟨v5.heap.size, 0, none⟩) 3 3) [5, 1, 4] [5, 1, 4] (by decide) (by decide) v6 (intsAt_of_owns (l := [5, 1, 4]) (owns_below HI10.out hB6)) (by
      rw [← hv6]
      refine .inr ⟨v5.heap.size, 0, 3, rfl, by simp, fun j hj => ?_⟩
      have e := heap_alloc_new v5 (.cells #[.int .i64 5, .int .i64 1, .int .i64 4] 3)
      simp only [World.cell?, e, Nat.zero_add]
      match j, hj with
      | 0, _ => rfl
      | 1, _ => rfl
      | 2, _ => rfl)
    rw [decide_eq_true rfl] at CS
    have hNN : (N300.toList == N300.toList) = true := by simp
    have HB6 := Lib.hid hB6
    clear hB5 hB6
    go_wp2_with fail
    refine CLf.mono ?_
    rintro e w' ⟨rfl, rfl⟩
    go_wp2_with fail
    refine CS.mono ?_
    rintro e w11 ⟨rfl, hB11⟩
    have HB11 := Lib.hid (H10.out.vw.below.trans ((HB6.out.trans (hB11.mono HB6.out.size)).mono H10.out.vw.below.size))
    clear hB11 CS CLf
    go_wp2
    go_ret
    exact ⟨rfl, HB11.out⟩
end Go.Proofs.YtmloljjllmmkoaaGreat

namespace Go.Proofs.YtmloljjllmmkoaaGreat
open Go.ChangeShapes Go.WideShapes Go.ChangeAt Go.RowKit Go.Shelf Go Go.Maps SM PL AL TR

/-- a text's beginning, as a law takes it -/
def cutT (s : ByteArray) : ByteArray := s.extract 0 (min s.size 17000)
theorem cutT_size (s : ByteArray) : (cutT s).size ≤ 17000 := by unfold cutT; rw [ByteArray.size_extract]; omega
theorem slice_to_any (x : ByteArray) (j : Nat) (hj : j ≤ x.size) (_hx : x.size ≤ 140737488355328) (W : World) :
    (Instr.slice 9 (.string x) none (some (.int .i64 (j : Int))) none).run Tryz.prog W = .ok (.string (x.extract 0 j)) W := by
  have := run_slice_string_h W 9 x Tryz.underlying9 .i64 (j : Int) (by omega) (by omega)
  rw [Int.toNat_natCast] at this
  exact this
theorem ord300 : (ord [] 300 1).length = 299 := by decide +kernel
section
variable {u : List UInt8} {n f k t : Nat} {M : Mem} {W : Nat → Prop} {lv : List (List Nat)} {b bt : List UInt8} {R : LvR}
theorem room_ok {O : List Nat} {olds : List (List Nat)} (hb : bt.length ≤ 16384) (o : LvOk O olds bt (rowsL bt.length) M ((ord u n f).drop k) R t) (hr : 72 ≤ (ord u n f).length - k) : R.ok = true := by
  cases h : R.ok with
  | true => rfl
  | false =>
    have h1 := o.full h
    have h2 := (rows_sum hb).1
    rw [List.length_drop] at h1
    omega
theorem TT.count (h : TT u n f k M W lv b) : (orderT lv).length = (rowsL b.length).sum ∧ lv.flatten.length = (rowsL b.length).sum := by
  have h1 := (orderT_perm h.tree).length_eq
  have h2 : lv.flatten.length = (rowsL b.length).sum := by rw [flatten_len, tree_rows 3 h.tree (by have := h.len; unfold cuts; omega)]; rfl
  exact ⟨h1.trans h2, h2⟩
theorem TT.order (h : TT u n f k M W lv b) : (orderT lv).Nodup ∧ (∀ y ∈ orderT lv, 1 ≤ y ∧ y < n) ∧ ∀ (hp : 0 < (orderT lv).length), (orderT lv)[0] = rootOf lv := by
  have hp := orderT_perm h.tree
  refine ⟨hp.nodup_iff.2 h.nodup, fun y hy => ?_, fun h0 => ?_⟩
  · have := h.rng y (hp.mem_iff.1 hy)
    exact ⟨this.1, this.2.1⟩
  · have hne : lv ≠ [] := fun e => by subst e; simp [orderT] at h0
    have e := orderT_head hne
    rw [List.head?_eq_getElem?, List.getElem?_eq_getElem h0] at e
    exact Option.some.inj e
theorem rows_sum_zero {n : Nat} (hn : n ≤ 16384) : (rowsL n).sum = 0 ↔ n = 0 := by
  constructor
  · intro e
    by_cases h0 : n = 0
    · exact h0
    · rw [rows_is h0 hn] at e
      split at e
      · simp at e
      · split at e <;> simp at e
  · rintro rfl; rw [rowsL_nil.2 rfl]; rfl
end
theorem shape_nat (n : Nat) (hn : n ≤ 16384) (w : World) : Calls Tryz.prog 37 #[.int .i64 n] w fun e w' => e = .returned (.tuple #[.int .i64 (rowsL n).sum, .int .i64 0]) ∧ w = w' := by
  have C := shape_any n w
  rwa [show shapeV n = .tuple #[.int .i64 (rowsL n).sum, .int .i64 0] by unfold shapeV; rw [if_neg (by omega), Int.toNat_natCast]] at C
/-- a row of numbers that is read: its value, its cells -/
theorem ints_row {W : World} {B : Nat} {v : Value} {L : List Nat} (h : W.ownsRow B 3 1 v L.length (ints L)) : ∃ a cap, v = .slice a L.length cap ∧ (L ≠ [] → ∃ g, a = some ⟨g, 0, none⟩ ∧ g < W.heap.size ∧ ∀ i (hi : i < L.length), W.cell? ⟨g, i, none⟩ = some (.int .i64 (L[i] : Nat))) := by
  obtain ⟨a, cap, rfl⟩ := row_shape h
  refine ⟨a, cap, rfl, fun hne => ?_⟩
  obtain ⟨g, cap', hv, _, hg, _, _, hc⟩ := row_cells' h (fun e => by
    injection e with e1 e2 e3
    exact hne (List.eq_nil_of_length_eq_zero e2))
  injection hv with e1 e2 e3
  exact ⟨g, e1, hg, fun i hi => hc i _ (by simp [ints, hi])⟩
end Go.Proofs.YtmloljjllmmkoaaGreat

