/-
  Which lists may be: package tables' loop, at each of its three instances.
-/
import Derived.Test.YtffebghkmobeoaaGreatDoorTabF
import Derived.Test.YtffebghkmobeoaaGreatDoorTabR
import Derived.Test.YtffebghkmobeoaaGreatDoorKitH
import Derived.Laws.EntriesVeiled
namespace Go.Proofs.YtffebghkmobeoaaGreatDoor
open Go.RowKit Go

theorem results_cell_one {fn : Func} {p : Tmp} {ty : TypeId} (h : fn.results = #[.cell p ty]) (tmps : Array Value) (P : Program) (w : World) :
    (results fn tmps).run P w =
      ((asAddr (tmps.getD p undef)).run P w).andThen fun a w₁ => (loadVar ty a).run P w₁ := by
  simp only [results, h]
  simp [Sem.run_bind, Result.andThen]
noncomputable def mayB {T : Type} (K : Kd T) (l : List T) : Bool := by classical exact decide (May K l)
theorem mayB_iff {T : Type} {K : Kd T} {l : List T} : mayB K l = true ↔ May K l := by unfold mayB; simp
theorem mayB_no {T : Type} {K : Kd T} {l : List T} (h : ¬ May K l) : mayB K l = false := by
  cases e : mayB K l with
  | false => rfl
  | true => exact absurd (mayB_iff.1 e) h
theorem mayB_yes {T : Type} {K : Kd T} {l : List T} (h : May K l) : mayB K l = true := mayB_iff.2 h
/-- what package tables knows of inodes -/
def tblIno : Value := .agg #[.func (.func 65) #[] #[], .func (.func 66) #[] #[], .func (.func 67) #[] #[], .func (.func 68) #[] #[]]
def tblOIno : Obj := .cells #[.func (.func 65) #[] #[], .func (.func 66) #[] #[], .func (.func 67) #[] #[], .func (.func 68) #[] #[]] 97 (0, 0)
theorem inoT_any (w : World) : Calls Tryz.prog 48 #[] w fun e w' => e = .returned tblIno ∧ Below w.heap.size w w' := by
  unfold tblIno
  obtain ⟨u0, hu0⟩ : ∃ u, w.alloc (.cells #[.nilFunc, .nilFunc, .nilFunc, .nilFunc] 97) = u := ⟨_, rfl⟩
  have hx : u0.heap[w.heap.size]? = some (.cells #[.nilFunc, .nilFunc, .nilFunc, .nilFunc] 97 (0, 0)) := by rw [← hu0]; exact heap_alloc_new w _
  have c0 : u0.cell? ⟨w.heap.size, 0, none⟩ = some .nilFunc := by simp [World.cell?, hx]
  have f0 : u0.frozen? ⟨w.heap.size, 0, none⟩ = false := by simp [World.frozen?, hx]
  have c1 : u0.cell? ⟨w.heap.size, 1, none⟩ = some .nilFunc := by simp [World.cell?, hx]
  have f1 : u0.frozen? ⟨w.heap.size, 1, none⟩ = false := by simp [World.frozen?, hx]
  have c2 : u0.cell? ⟨w.heap.size, 2, none⟩ = some .nilFunc := by simp [World.cell?, hx]
  have f2 : u0.frozen? ⟨w.heap.size, 2, none⟩ = false := by simp [World.frozen?, hx]
  have c3 : u0.cell? ⟨w.heap.size, 3, none⟩ = some .nilFunc := by simp [World.cell?, hx]
  have f3 : u0.frozen? ⟨w.heap.size, 3, none⟩ = false := by simp [World.frozen?, hx]
  have hB : Below w.heap.size w u0 := by rw [← hu0]; exact (Below.refl _ w).alloc (Nat.le_refl _) _
  obtain ⟨u1, hu1⟩ : ∃ u, ((((u0.setCell ⟨w.heap.size, 0, none⟩ (.func (.func 65) #[] #[])).setCell ⟨w.heap.size, 1, none⟩ (.func (.func 66) #[] #[])).setCell ⟨w.heap.size, 2, none⟩ (.func (.func 67) #[] #[])).setCell ⟨w.heap.size, 3, none⟩ (.func (.func 68) #[] #[])) = u := ⟨_, rfl⟩
  have hy : u1.heap[w.heap.size]? = some (.cells #[.func (.func 65) #[] #[], .func (.func 66) #[] #[], .func (.func 67) #[] #[], .func (.func 68) #[] #[]] 97 (0, 0)) := by rw [← hu1]; exact (heap_set (heap_set (heap_set (heap_set hx (i := 0) (.func (.func 65) #[] #[])) (i := 1) (.func (.func 66) #[] #[])) (i := 2) (.func (.func 67) #[] #[])) (i := 3) (.func (.func 68) #[] #[]))
  have HB := Lib.hid (show Below w.heap.size w u1 by rw [← hu1]; exact ((((hB.setCell (p := ⟨w.heap.size, 0, none⟩) (Nat.le_refl _) (.func (.func 65) #[] #[])).setCell (p := ⟨w.heap.size, 1, none⟩) (Nat.le_refl _) (.func (.func 66) #[] #[])).setCell (p := ⟨w.heap.size, 2, none⟩) (Nat.le_refl _) (.func (.func 67) #[] #[])).setCell (p := ⟨w.heap.size, 3, none⟩) (Nat.le_refl _) (.func (.func 68) #[] #[])))
  have g0 : u1.cell? ⟨w.heap.size, 0, none⟩ = some (.func (.func 65) #[] #[]) := by simp [World.cell?, hy]
  have g1 : u1.cell? ⟨w.heap.size, 1, none⟩ = some (.func (.func 66) #[] #[]) := by simp [World.cell?, hy]
  have g2 : u1.cell? ⟨w.heap.size, 2, none⟩ = some (.func (.func 67) #[] #[]) := by simp [World.cell?, hy]
  have g3 : u1.cell? ⟨w.heap.size, 3, none⟩ = some (.func (.func 68) #[] #[]) := by simp [World.cell?, hy]
  clear hx hy hB
  go_enter Tryz.func48, Tryz.ntmps48
  go_wp2
  refine bodyPost_ret ?_ rfl ⟨rfl, HB.out⟩
  rw [results_cell_one rfl]
  go_simp
  try rfl
theorem ino_load {W : World} {b off : Nat} {l : List Ino} (h : ∀ j (_ : j < l.length) (i : Nat) (_ : i < 5), W.cell? ⟨b, off + j * 5 + i, none⟩ = (inoC l[j])[i]?) (j : Nat) (hj : j < l.length) :
    W.cell? ⟨b, off + j * 5, none⟩ = some (.int .i64 l[j].num) ∧ W.cell? ⟨b, off + j * 5 + 1, none⟩ = some (.bool l[j].dir) ∧ W.cell? ⟨b, off + j * 5 + 2, none⟩ = some (.int .i64 l[j].links) ∧ W.cell? ⟨b, off + j * 5 + 3, none⟩ = some (.int .i64 l[j].root) ∧ W.cell? ⟨b, off + j * 5 + 4, none⟩ = some (.int .i64 l[j].size) := by
  refine ⟨h j hj 0 (by omega), h j hj 1 (by omega), h j hj 2 (by omega), h j hj 3 (by omega), h j hj 4 (by omega)⟩
set_option maxRecDepth 100000 in
set_option maxHeartbeats 4000000 in
theorem inoMay_any (v : Value) (l : List Ino) (hn : l.length ≤ 9223372036854775807) (w : World) (h : LstAt inoC 5 w v l) :
    Calls Tryz.prog 64 #[tblIno, v] w fun e w' => e = .returned (.bool (mayB kI l)) ∧ Below w.heap.size w w' := by
  obtain ⟨R, hR⟩ : ∃ R, mayB kI l = R := ⟨_, rfl⟩
  rw [hR]
  have HR := Lib.hid hR
  clear hR
  obtain ⟨a, cap, rfl, hc⟩ := h
  obtain ⟨N, hN⟩ : ∃ N, l.length = N := ⟨_, rfl⟩
  rw [hN] at hn ⊢
  obtain ⟨w0, hw0⟩ : ∃ w0, w.alloc tblOIno = w0 := ⟨_, rfl⟩
  have HB0 := Lib.hid (show Below w.heap.size w w0 by rw [← hw0]; exact (Below.refl _ w).alloc (Nat.le_refl _) _)
  have HO := Lib.hid (show w0.heap[w.heap.size]? = some tblOIno by rw [← hw0]; exact heap_alloc_new w _)
  unfold tblOIno at hw0
  unfold tblIno
  have HC := Lib.hid hc
  have HN := Lib.hid hN
  clear hc hN
  by_cases h4 : 4096 < N
  · have h4i : (4096 : Int) < (N : Int) := by omega
    have HF := Lib.hid (show R = false by rw [← HR.out]; exact mayB_no (not_may_long (by rw [HN.out]; exact h4)))
    clear h4
    go_enter Tryz.func64, Tryz.ntmps64
    go_wp2
    go_ret
    exact ⟨by rw [HF.out]; rfl, HB0.out⟩
  · have h4i : (N : Int) ≤ 4096 := by omega
    clear h4
    go_enter Tryz.func64, Tryz.ntmps64
    go_wp2_with fail
    go_loopw [12] (fun i wr => ∃ j : Nat, j ≤ N ∧ i = .int .i64 j ∧ MayTo kI l j ∧ Below w0.heap.size w0 wr) (fun i _ => N - (intOf i).toNat)
    case atStart => exact ⟨0, Nat.zero_le _, rfl, MayTo.zero l, Below.refl _ _⟩
    case round =>
      obtain ⟨j, hj, rfl, hm, hB⟩ := hrel
      have HM := Lib.hid hm
      have HB := Lib.hid hB
      clear hm hB
      by_cases hlt : j < N
      · have hl : j < l.length := by rw [HN.out]; exact hlt
        have hji : (j : Int) < (N : Int) := by omega
        obtain ⟨b, off, rfl, hb, hcells⟩ := HC.out (by intro e; rw [e] at hl; simp at hl)
        have HA := Lib.hid (HB0.out.trans (HB.out.mono HB0.out.size))
        obtain ⟨wr', hwr⟩ : ∃ u, u = wr := ⟨_, rfl⟩
        have HCL := Lib.hid (fun (W : World) (hW : Below wr.heap.size wr W) => ino_load (W := W) (b := b) (off := off) (l := l) (fun j hj i hi => (World.cell?_of_block (w := w) ((HA.out.trans (hW.mono HA.out.size)).block b hb)).trans (hcells j hj i hi)))
        clear hcells hwr wr'
        obtain ⟨y, hy⟩ : ∃ y, l[j] = y := ⟨_, rfl⟩
        obtain ⟨c0, c1, c2, c3, c4⟩ := HCL.out wr (Below.refl _ wr) j hl
        rw [hy] at c0 c1 c2 c3 c4
        have HY := Lib.hid hy
        clear hy
        obtain ⟨u0, hu0⟩ : ∃ u, wr.alloc (.cells #[.int .i64 0, .bool false, .int .i64 0, .int .i64 0, .int .i64 0] 64) = u := ⟨_, rfl⟩
        have hx0 : u0.heap[wr.heap.size]? = some (.cells #[.int .i64 0, .bool false, .int .i64 0, .int .i64 0, .int .i64 0] 64 (0, 0)) := by rw [← hu0]; exact heap_alloc_new wr _
        have z0 : u0.cell? ⟨wr.heap.size, 0, none⟩ = some (.int .i64 0) := by simp [World.cell?, hx0]
        have z1 : u0.cell? ⟨wr.heap.size, 1, none⟩ = some (.bool false) := by simp [World.cell?, hx0]
        have z2 : u0.cell? ⟨wr.heap.size, 2, none⟩ = some (.int .i64 0) := by simp [World.cell?, hx0]
        have z3 : u0.cell? ⟨wr.heap.size, 3, none⟩ = some (.int .i64 0) := by simp [World.cell?, hx0]
        have z4 : u0.cell? ⟨wr.heap.size, 4, none⟩ = some (.int .i64 0) := by simp [World.cell?, hx0]
        have f0 : u0.frozen? ⟨wr.heap.size, 0, none⟩ = false := by simp [World.frozen?, hx0]
        have f1 : u0.frozen? ⟨wr.heap.size, 1, none⟩ = false := by simp [World.frozen?, hx0]
        have f2 : u0.frozen? ⟨wr.heap.size, 2, none⟩ = false := by simp [World.frozen?, hx0]
        have f3 : u0.frozen? ⟨wr.heap.size, 3, none⟩ = false := by simp [World.frozen?, hx0]
        have f4 : u0.frozen? ⟨wr.heap.size, 4, none⟩ = false := by simp [World.frozen?, hx0]
        have hu : Below wr.heap.size wr u0 := by rw [← hu0]; exact (Below.refl _ wr).alloc (Nat.le_refl _) _
        obtain ⟨u1, hu1⟩ : ∃ u, (((((u0.setCell ⟨wr.heap.size, 0, none⟩ (.int .i64 y.num)).setCell ⟨wr.heap.size, 1, none⟩ (.bool y.dir)).setCell ⟨wr.heap.size, 2, none⟩ (.int .i64 y.links)).setCell ⟨wr.heap.size, 3, none⟩ (.int .i64 y.root)).setCell ⟨wr.heap.size, 4, none⟩ (.int .i64 y.size)) = u := ⟨_, rfl⟩
        have HX := Lib.hid (show u1.heap[wr.heap.size]? = some (.cells #[.int .i64 y.num, .bool y.dir, .int .i64 y.links, .int .i64 y.root, .int .i64 y.size] 64 (0, 0)) by rw [← hu1]; exact (heap_set (heap_set (heap_set (heap_set (heap_set hx0 (i := 0) (.int .i64 y.num)) (i := 1) (.bool y.dir)) (i := 2) (.int .i64 y.links)) (i := 3) (.int .i64 y.root)) (i := 4) (.int .i64 y.size)))
        have HU := Lib.hid (show Below wr.heap.size wr u1.drew by rw [← hu1]; exact Below.drew (((((hu.setCell (p := ⟨wr.heap.size, 0, none⟩) (Nat.le_refl _) (.int .i64 y.num)).setCell (p := ⟨wr.heap.size, 1, none⟩) (Nat.le_refl _) (.bool y.dir)).setCell (p := ⟨wr.heap.size, 2, none⟩) (Nat.le_refl _) (.int .i64 y.links)).setCell (p := ⟨wr.heap.size, 3, none⟩) (Nat.le_refl _) (.int .i64 y.root)).setCell (p := ⟨wr.heap.size, 4, none⟩) (Nat.le_refl _) (.int .i64 y.size)))
        clear hx0 hu
        have HK := Lib.hid (show ∀ W, Below u1.drew.heap.size u1.drew W → W.cell? ⟨w.heap.size, 2, none⟩ = some (.func (.func 67) #[] #[]) ∧ W.cell? ⟨wr.heap.size, 0, none⟩ = some (.int .i64 y.num) ∧ W.cell? ⟨wr.heap.size, 1, none⟩ = some (.bool y.dir) ∧ W.cell? ⟨wr.heap.size, 2, none⟩ = some (.int .i64 y.links) ∧ W.cell? ⟨wr.heap.size, 3, none⟩ = some (.int .i64 y.root) ∧ W.cell? ⟨wr.heap.size, 4, none⟩ = some (.int .i64 y.size) ∧ W.cell? ⟨w.heap.size, 3, none⟩ = some (.func (.func 68) #[] #[]) from fun W hW => by
          have e := (hW.block _ (lt_of_heap HX.out)).trans HX.out
          have hl0 : w.heap.size < wr.heap.size := Nat.lt_of_lt_of_le (lt_of_heap HO.out) HB.out.size
          have e2 := (hW.block _ (Nat.lt_of_lt_of_le hl0 HU.out.size)).trans ((HU.out.block _ hl0).trans ((HB.out.block _ (lt_of_heap HO.out)).trans HO.out))
          exact ⟨by simp [World.cell?, e2, tblOIno], by simp [World.cell?, e], by simp [World.cell?, e], by simp [World.cell?, e], by simp [World.cell?, e], by simp [World.cell?, e], by simp [World.cell?, e2, tblOIno]⟩)
        have CM := fun w => inoM_any y w
        unfold inoV at CM
        have HR1 := Lib.hid (Below.refl u1.drew.heap.size u1.drew)
        obtain ⟨p, hp⟩ : ∃ p, okIB y = p := ⟨_, rfl⟩
        rw [hp] at CM
        have HP := Lib.hid hp
        clear hp hb
        cases p with
        | false =>
          have HF := Lib.hid (show R = false by rw [← HR.out]; exact mayB_no (not_may_ok hl (by rw [HY.out]; exact fun e => by have e2 := (okIB_iff y).2 e; rw [HP.out] at e2; cases e2)))
          go_wp2_with fail
          refine wp_region_held_drew (S := fun w' => w'.cell? ⟨w.heap.size, 2, none⟩ = some (.func (.func 67) #[] #[]) ∧ w'.cell? ⟨wr.heap.size, 0, none⟩ = some (.int .i64 y.num) ∧ w'.cell? ⟨wr.heap.size, 1, none⟩ = some (.bool y.dir) ∧ w'.cell? ⟨wr.heap.size, 2, none⟩ = some (.int .i64 y.links) ∧ w'.cell? ⟨wr.heap.size, 3, none⟩ = some (.int .i64 y.root) ∧ w'.cell? ⟨wr.heap.size, 4, none⟩ = some (.int .i64 y.size) ∧ w'.cell? ⟨w.heap.size, 3, none⟩ = some (.func (.func 68) #[] #[])) (by kernel_rfl) (HK.out _ HR1.out) (fun hHeld => ?_)
          refine take_oneH 17 (i := 0) (v := .pointer (some ⟨w.heap.size, 2, none⟩)) rfl rfl (by kernel_rfl) (by kernel_rfl) (by kernel_rfl) (fun _ _ _ h => h) (Or.inl ⟨by kernel_rfl, fun w hSw => by (go_simp)⟩) (by assumption) ?_
          simp only [Act.put, List.setIfInBounds_toArray, List.set_cons_zero, List.set_cons_succ]
          refine take_oneH 18 (i := 1) (v := .func (.func 67) #[] #[]) rfl rfl (by kernel_rfl) (by kernel_rfl) (by kernel_rfl) (fun _ _ _ h => h) (Or.inl ⟨by kernel_rfl, fun w hSw => by (go_simp)⟩) (by assumption) ?_
          simp only [Act.put, List.setIfInBounds_toArray, List.set_cons_zero, List.set_cons_succ]
          refine take_oneH 19 (i := 2) (v := .agg #[.int .i64 y.num, .bool y.dir, .int .i64 y.links, .int .i64 y.root, .int .i64 y.size]) rfl rfl (by kernel_rfl) (by kernel_rfl) (by kernel_rfl) (fun _ _ _ h => h) (Or.inl ⟨by kernel_rfl, fun w hSw => by (go_simp)⟩) (by assumption) ?_
          simp only [Act.put, List.setIfInBounds_toArray, List.set_cons_zero, List.set_cons_succ]
          refine wpAnyH_ready (rs := [3]) (by kernel_rfl) (by simp) ?_
          refine AllReadyH.cons rfl (fun K hK => ?_) (AllReadyH.nil)
          go_simp
          go_at_call 67
          refine (CM _).mono ?_
          rintro e v1 ⟨rfl, hB1⟩
          have K1 := Lib.hid hB1
          clear hB1
          go_wp2_with fail
          refine hK.out _ _ (HK.out _ K1.out) (fun hHeld => ?_)
          clear hK K
          try simp only [Act.put, List.setIfInBounds_toArray, List.set_cons_zero, List.set_cons_succ]
          refine take_oneH 21 (i := 4) (v := .bool true) rfl rfl (by kernel_rfl) (by kernel_rfl) (by kernel_rfl) (fun _ _ _ h => h) (Or.inl ⟨by kernel_rfl, fun w hSw => by (go_simp)⟩) (by assumption) ?_
          simp only [Act.put, List.setIfInBounds_toArray, List.set_cons_zero, List.set_cons_succ]
          refine take_oneH 22 (i := 5) (v := .bool true) rfl rfl (by kernel_rfl) (by kernel_rfl) (by kernel_rfl) (fun _ _ _ h => h) (Or.inl ⟨by kernel_rfl, fun w hSw => by (go_simp)⟩) (by assumption) ?_
          simp only [Act.put, List.setIfInBounds_toArray, List.set_cons_zero, List.set_cons_succ]
          refine take_oneH 23 (i := 6) (v := undef) rfl rfl (by kernel_rfl) (by kernel_rfl) (by kernel_rfl) (fun _ _ _ h => h) (Or.inr ⟨by kernel_rfl, rfl⟩) (by assumption) ?_
          simp only [Act.put, List.setIfInBounds_toArray, List.set_cons_zero, List.set_cons_succ]
          refine take_oneH 24 (i := 7) (v := undef) rfl rfl (by kernel_rfl) (by kernel_rfl) (by kernel_rfl) (fun _ _ _ h => h) (Or.inr ⟨by kernel_rfl, rfl⟩) (by assumption) ?_
          simp only [Act.put, List.setIfInBounds_toArray, List.set_cons_zero, List.set_cons_succ]
          refine take_oneH 25 (i := 8) (v := undef) rfl rfl (by kernel_rfl) (by kernel_rfl) (by kernel_rfl) (fun _ _ _ h => h) (Or.inr ⟨by kernel_rfl, rfl⟩) (by assumption) ?_
          simp only [Act.put, List.setIfInBounds_toArray, List.set_cons_zero, List.set_cons_succ]
          refine take_oneH 26 (i := 9) (v := undef) rfl rfl (by kernel_rfl) (by kernel_rfl) (by kernel_rfl) (fun _ _ _ h => h) (Or.inr ⟨by kernel_rfl, rfl⟩) (by assumption) ?_
          simp only [Act.put, List.setIfInBounds_toArray, List.set_cons_zero, List.set_cons_succ]
          refine take_oneH 27 (i := 10) (v := undef) rfl rfl (by kernel_rfl) (by kernel_rfl) (by kernel_rfl) (fun _ _ _ h => h) (Or.inr ⟨by kernel_rfl, rfl⟩) (by assumption) ?_
          simp only [Act.put, List.setIfInBounds_toArray, List.set_cons_zero, List.set_cons_succ]
          refine take_oneH 28 (i := 11) (v := undef) rfl rfl (by kernel_rfl) (by kernel_rfl) (by kernel_rfl) (fun _ _ _ h => h) (Or.inr ⟨by kernel_rfl, rfl⟩) (by assumption) ?_
          simp only [Act.put, List.setIfInBounds_toArray, List.set_cons_zero, List.set_cons_succ]
          refine take_oneH 29 (i := 12) (v := undef) rfl rfl (by kernel_rfl) (by kernel_rfl) (by kernel_rfl) (fun _ _ _ h => h) (Or.inr ⟨by kernel_rfl, rfl⟩) (by assumption) ?_
          simp only [Act.put, List.setIfInBounds_toArray, List.set_cons_zero, List.set_cons_succ]
          refine take_oneH 30 (i := 13) (v := undef) rfl rfl (by kernel_rfl) (by kernel_rfl) (by kernel_rfl) (fun _ _ _ h => h) (Or.inr ⟨by kernel_rfl, rfl⟩) (by assumption) ?_
          simp only [Act.put, List.setIfInBounds_toArray, List.set_cons_zero, List.set_cons_succ]
          refine take_oneH 31 (i := 14) (v := undef) rfl rfl (by kernel_rfl) (by kernel_rfl) (by kernel_rfl) (fun _ _ _ h => h) (Or.inr ⟨by kernel_rfl, rfl⟩) (by assumption) ?_
          simp only [Act.put, List.setIfInBounds_toArray, List.set_cons_zero, List.set_cons_succ]
          refine take_oneH 32 (i := 15) (v := undef) rfl rfl (by kernel_rfl) (by kernel_rfl) (by kernel_rfl) (fun _ _ _ h => h) (Or.inr ⟨by kernel_rfl, rfl⟩) (by assumption) ?_
          simp only [Act.put, List.setIfInBounds_toArray, List.set_cons_zero, List.set_cons_succ]
          refine take_oneH 33 (i := 16) (v := undef) rfl rfl (by kernel_rfl) (by kernel_rfl) (by kernel_rfl) (fun _ _ _ h => h) (Or.inr ⟨by kernel_rfl, rfl⟩) (by assumption) ?_
          simp only [Act.put, List.setIfInBounds_toArray, List.set_cons_zero, List.set_cons_succ]
          refine take_oneH 34 (i := 17) (v := undef) rfl rfl (by kernel_rfl) (by kernel_rfl) (by kernel_rfl) (fun _ _ _ h => h) (Or.inr ⟨by kernel_rfl, rfl⟩) (by assumption) ?_
          simp only [Act.put, List.setIfInBounds_toArray, List.set_cons_zero, List.set_cons_succ]
          refine take_oneH 35 (i := 18) (v := undef) rfl rfl (by kernel_rfl) (by kernel_rfl) (by kernel_rfl) (fun _ _ _ h => h) (Or.inr ⟨by kernel_rfl, rfl⟩) (by assumption) ?_
          simp only [Act.put, List.setIfInBounds_toArray, List.set_cons_zero, List.set_cons_succ]
          refine take_oneH 36 (i := 19) (v := undef) rfl rfl (by kernel_rfl) (by kernel_rfl) (by kernel_rfl) (fun _ _ _ h => h) (Or.inr ⟨by kernel_rfl, rfl⟩) (by assumption) ?_
          simp only [Act.put, List.setIfInBounds_toArray, List.set_cons_zero, List.set_cons_succ]
          refine take_oneH 37 (i := 20) (v := .bool true) rfl rfl (by kernel_rfl) (by kernel_rfl) (by kernel_rfl) (fun _ _ _ h => h) (Or.inl ⟨by kernel_rfl, fun w hSw => by (go_simp)⟩) (by assumption) ?_
          simp only [Act.put, List.setIfInBounds_toArray, List.set_cons_zero, List.set_cons_succ]
          refine wpAnyH_done (by kernel_rfl) ?_ _
          clear CM
          go_wp2
          go_ret
          exact ⟨by rw [HF.out]; rfl, HA.out.trans ((HU.out.trans (K1.out.mono HU.out.size)).mono HA.out.size)⟩
        | true =>
          have hok : kI.ok l[j] := by rw [HY.out]; exact (okIB_iff y).1 HP.out
          have HOK := Lib.hid hok
          clear hok
          by_cases hj0 : j = 0
          · have HE := Lib.hid (HM.out.succ hl HOK.out (fun h => absurd h (by omega)))
            have hjn : ¬ (0 < j) := by omega
            clear hj0
            go_wp2_with fail
            refine wp_region_held_drew (S := fun w' => w'.cell? ⟨w.heap.size, 2, none⟩ = some (.func (.func 67) #[] #[]) ∧ w'.cell? ⟨wr.heap.size, 0, none⟩ = some (.int .i64 y.num) ∧ w'.cell? ⟨wr.heap.size, 1, none⟩ = some (.bool y.dir) ∧ w'.cell? ⟨wr.heap.size, 2, none⟩ = some (.int .i64 y.links) ∧ w'.cell? ⟨wr.heap.size, 3, none⟩ = some (.int .i64 y.root) ∧ w'.cell? ⟨wr.heap.size, 4, none⟩ = some (.int .i64 y.size) ∧ w'.cell? ⟨w.heap.size, 3, none⟩ = some (.func (.func 68) #[] #[])) (by kernel_rfl) (HK.out _ HR1.out) (fun hHeld => ?_)
            refine take_oneH 17 (i := 0) (v := .pointer (some ⟨w.heap.size, 2, none⟩)) rfl rfl (by kernel_rfl) (by kernel_rfl) (by kernel_rfl) (fun _ _ _ h => h) (Or.inl ⟨by kernel_rfl, fun w hSw => by (go_simp)⟩) (by assumption) ?_
            simp only [Act.put, List.setIfInBounds_toArray, List.set_cons_zero, List.set_cons_succ]
            refine take_oneH 18 (i := 1) (v := .func (.func 67) #[] #[]) rfl rfl (by kernel_rfl) (by kernel_rfl) (by kernel_rfl) (fun _ _ _ h => h) (Or.inl ⟨by kernel_rfl, fun w hSw => by (go_simp)⟩) (by assumption) ?_
            simp only [Act.put, List.setIfInBounds_toArray, List.set_cons_zero, List.set_cons_succ]
            refine take_oneH 19 (i := 2) (v := .agg #[.int .i64 y.num, .bool y.dir, .int .i64 y.links, .int .i64 y.root, .int .i64 y.size]) rfl rfl (by kernel_rfl) (by kernel_rfl) (by kernel_rfl) (fun _ _ _ h => h) (Or.inl ⟨by kernel_rfl, fun w hSw => by (go_simp)⟩) (by assumption) ?_
            simp only [Act.put, List.setIfInBounds_toArray, List.set_cons_zero, List.set_cons_succ]
            refine wpAnyH_ready (rs := [3]) (by kernel_rfl) (by simp) ?_
            refine AllReadyH.cons rfl (fun K hK => ?_) (AllReadyH.nil)
            go_simp
            go_at_call 67
            refine (CM _).mono ?_
            rintro e v1 ⟨rfl, hB1⟩
            have K1 := Lib.hid hB1
            clear hB1
            go_wp2_with fail
            refine hK.out _ _ (HK.out _ K1.out) (fun hHeld => ?_)
            clear hK K
            try simp only [Act.put, List.setIfInBounds_toArray, List.set_cons_zero, List.set_cons_succ]
            refine take_oneH 21 (i := 4) (v := .bool false) rfl rfl (by kernel_rfl) (by kernel_rfl) (by kernel_rfl) (fun _ _ _ h => h) (Or.inl ⟨by kernel_rfl, fun w hSw => by (go_simp)⟩) (by assumption) ?_
            simp only [Act.put, List.setIfInBounds_toArray, List.set_cons_zero, List.set_cons_succ]
            refine take_oneH 22 (i := 5) (v := .bool false) rfl rfl (by kernel_rfl) (by kernel_rfl) (by kernel_rfl) (fun _ _ _ h => h) (Or.inl ⟨by kernel_rfl, fun w hSw => by (go_simp)⟩) (by assumption) ?_
            simp only [Act.put, List.setIfInBounds_toArray, List.set_cons_zero, List.set_cons_succ]
            refine take_oneH 23 (i := 6) (v := .int .i64 ((j : Nat) : Int)) rfl rfl (by kernel_rfl) (by kernel_rfl) (by kernel_rfl) (fun _ _ _ h => h) (Or.inl ⟨by kernel_rfl, fun w hSw => by (go_simp)⟩) (by assumption) ?_
            simp only [Act.put, List.setIfInBounds_toArray, List.set_cons_zero, List.set_cons_succ]
            refine take_oneH 24 (i := 7) (v := .bool false) rfl rfl (by kernel_rfl) (by kernel_rfl) (by kernel_rfl) (fun _ _ _ h => h) (Or.inl ⟨by kernel_rfl, fun w hSw => by (go_simp)⟩) (by assumption) ?_
            simp only [Act.put, List.setIfInBounds_toArray, List.set_cons_zero, List.set_cons_succ]
            refine take_oneH 25 (i := 8) (v := .bool false) rfl rfl (by kernel_rfl) (by kernel_rfl) (by kernel_rfl) (fun _ _ _ h => h) (Or.inl ⟨by kernel_rfl, fun w hSw => by (go_simp)⟩) (by assumption) ?_
            simp only [Act.put, List.setIfInBounds_toArray, List.set_cons_zero, List.set_cons_succ]
            refine take_oneH 26 (i := 9) (v := undef) rfl rfl (by kernel_rfl) (by kernel_rfl) (by kernel_rfl) (fun _ _ _ h => h) (Or.inr ⟨by kernel_rfl, rfl⟩) (by assumption) ?_
            simp only [Act.put, List.setIfInBounds_toArray, List.set_cons_zero, List.set_cons_succ]
            refine take_oneH 27 (i := 10) (v := undef) rfl rfl (by kernel_rfl) (by kernel_rfl) (by kernel_rfl) (fun _ _ _ h => h) (Or.inr ⟨by kernel_rfl, rfl⟩) (by assumption) ?_
            simp only [Act.put, List.setIfInBounds_toArray, List.set_cons_zero, List.set_cons_succ]
            refine take_oneH 28 (i := 11) (v := undef) rfl rfl (by kernel_rfl) (by kernel_rfl) (by kernel_rfl) (fun _ _ _ h => h) (Or.inr ⟨by kernel_rfl, rfl⟩) (by assumption) ?_
            simp only [Act.put, List.setIfInBounds_toArray, List.set_cons_zero, List.set_cons_succ]
            refine take_oneH 29 (i := 12) (v := undef) rfl rfl (by kernel_rfl) (by kernel_rfl) (by kernel_rfl) (fun _ _ _ h => h) (Or.inr ⟨by kernel_rfl, rfl⟩) (by assumption) ?_
            simp only [Act.put, List.setIfInBounds_toArray, List.set_cons_zero, List.set_cons_succ]
            refine take_oneH 30 (i := 13) (v := undef) rfl rfl (by kernel_rfl) (by kernel_rfl) (by kernel_rfl) (fun _ _ _ h => h) (Or.inr ⟨by kernel_rfl, rfl⟩) (by assumption) ?_
            simp only [Act.put, List.setIfInBounds_toArray, List.set_cons_zero, List.set_cons_succ]
            refine take_oneH 31 (i := 14) (v := undef) rfl rfl (by kernel_rfl) (by kernel_rfl) (by kernel_rfl) (fun _ _ _ h => h) (Or.inr ⟨by kernel_rfl, rfl⟩) (by assumption) ?_
            simp only [Act.put, List.setIfInBounds_toArray, List.set_cons_zero, List.set_cons_succ]
            refine take_oneH 32 (i := 15) (v := undef) rfl rfl (by kernel_rfl) (by kernel_rfl) (by kernel_rfl) (fun _ _ _ h => h) (Or.inr ⟨by kernel_rfl, rfl⟩) (by assumption) ?_
            simp only [Act.put, List.setIfInBounds_toArray, List.set_cons_zero, List.set_cons_succ]
            refine take_oneH 33 (i := 16) (v := undef) rfl rfl (by kernel_rfl) (by kernel_rfl) (by kernel_rfl) (fun _ _ _ h => h) (Or.inr ⟨by kernel_rfl, rfl⟩) (by assumption) ?_
            simp only [Act.put, List.setIfInBounds_toArray, List.set_cons_zero, List.set_cons_succ]
            refine take_oneH 34 (i := 17) (v := undef) rfl rfl (by kernel_rfl) (by kernel_rfl) (by kernel_rfl) (fun _ _ _ h => h) (Or.inr ⟨by kernel_rfl, rfl⟩) (by assumption) ?_
            simp only [Act.put, List.setIfInBounds_toArray, List.set_cons_zero, List.set_cons_succ]
            refine take_oneH 35 (i := 18) (v := undef) rfl rfl (by kernel_rfl) (by kernel_rfl) (by kernel_rfl) (fun _ _ _ h => h) (Or.inr ⟨by kernel_rfl, rfl⟩) (by assumption) ?_
            simp only [Act.put, List.setIfInBounds_toArray, List.set_cons_zero, List.set_cons_succ]
            refine take_oneH 36 (i := 19) (v := .bool false) rfl rfl (by kernel_rfl) (by kernel_rfl) (by kernel_rfl) (fun _ _ _ h => h) (Or.inl ⟨by kernel_rfl, fun w hSw => by (go_simp)⟩) (by assumption) ?_
            simp only [Act.put, List.setIfInBounds_toArray, List.set_cons_zero, List.set_cons_succ]
            refine take_oneH 37 (i := 20) (v := .bool false) rfl rfl (by kernel_rfl) (by kernel_rfl) (by kernel_rfl) (fun _ _ _ h => h) (Or.inl ⟨by kernel_rfl, fun w hSw => by (go_simp)⟩) (by assumption) ?_
            simp only [Act.put, List.setIfInBounds_toArray, List.set_cons_zero, List.set_cons_succ]
            refine wpAnyH_done (by kernel_rfl) ?_ _
            clear CM
            go_wp2
            go_roundw
            case rel => exact ⟨j + 1, hlt, by go_num, HE.out, HB.out.trans ((HU.out.trans (K1.out.mono HU.out.size)).mono HB.out.size)⟩
            case measure => simp [intOf]; omega
          · have hji1 : (0 : Int) < (j : Int) := by omega
            have hj1 : j - 1 < l.length := by omega
            have ej : (j : Int) - 1 = ((j - 1 : Nat) : Int) := by omega
            have hjn : 0 < j := by omega
            have ew : IntKind.i64.wrap ((j - 1 : Nat) : Int) = ((j - 1 : Nat) : Int) := wrap64 _ (by omega) (by omega)
            have ej0 : (0 : Int) ≤ ((j - 1 : Nat) : Int) := by omega
            have ejN : ((j - 1 : Nat) : Int) < (N : Int) := by omega
            obtain ⟨z, hz⟩ : ∃ z, l[j - 1] = z := ⟨_, rfl⟩
            have HZ := Lib.hid hz
            have HKA := Lib.hid (show ∀ W, Below u1.drew.heap.size u1.drew W → (W.cell? ⟨w.heap.size, 2, none⟩ = some (.func (.func 67) #[] #[]) ∧ W.cell? ⟨wr.heap.size, 0, none⟩ = some (.int .i64 y.num) ∧ W.cell? ⟨wr.heap.size, 1, none⟩ = some (.bool y.dir) ∧ W.cell? ⟨wr.heap.size, 2, none⟩ = some (.int .i64 y.links) ∧ W.cell? ⟨wr.heap.size, 3, none⟩ = some (.int .i64 y.root) ∧ W.cell? ⟨wr.heap.size, 4, none⟩ = some (.int .i64 y.size) ∧ W.cell? ⟨w.heap.size, 3, none⟩ = some (.func (.func 68) #[] #[])) ∧ (W.cell? ⟨b, off + (j - 1) * 5, none⟩ = some (.int .i64 z.num) ∧ W.cell? ⟨b, off + (j - 1) * 5 + 1, none⟩ = some (.bool z.dir) ∧ W.cell? ⟨b, off + (j - 1) * 5 + 2, none⟩ = some (.int .i64 z.links) ∧ W.cell? ⟨b, off + (j - 1) * 5 + 3, none⟩ = some (.int .i64 z.root) ∧ W.cell? ⟨b, off + (j - 1) * 5 + 4, none⟩ = some (.int .i64 z.size)) from fun W hW => by
              have h := HCL.out W (HU.out.trans (hW.mono HU.out.size)) (j - 1) hj1
              rw [HZ.out] at h
              exact ⟨HK.out W hW, h⟩)
            clear hz
            have CL := fun w => inoL_any z y w
            unfold inoV at CL
            obtain ⟨q, hq⟩ : ∃ q, decide (z.num < y.num) = q := ⟨_, rfl⟩
            rw [hq] at CL
            have HQ := Lib.hid hq
            clear hq
            cases q with
            | false =>
              have HF := Lib.hid (show R = false by rw [← HR.out]; exact mayB_no (not_may_lt hl (by omega) (by rw [HY.out, HZ.out]; exact of_decide_eq_false (p := (z.num < y.num)) HQ.out)))
              go_wp2_with fail
              refine wp_region_held_drew (S := fun w' => (w'.cell? ⟨w.heap.size, 2, none⟩ = some (.func (.func 67) #[] #[]) ∧ w'.cell? ⟨wr.heap.size, 0, none⟩ = some (.int .i64 y.num) ∧ w'.cell? ⟨wr.heap.size, 1, none⟩ = some (.bool y.dir) ∧ w'.cell? ⟨wr.heap.size, 2, none⟩ = some (.int .i64 y.links) ∧ w'.cell? ⟨wr.heap.size, 3, none⟩ = some (.int .i64 y.root) ∧ w'.cell? ⟨wr.heap.size, 4, none⟩ = some (.int .i64 y.size) ∧ w'.cell? ⟨w.heap.size, 3, none⟩ = some (.func (.func 68) #[] #[])) ∧ (w'.cell? ⟨b, off + (j - 1) * 5, none⟩ = some (.int .i64 z.num) ∧ w'.cell? ⟨b, off + (j - 1) * 5 + 1, none⟩ = some (.bool z.dir) ∧ w'.cell? ⟨b, off + (j - 1) * 5 + 2, none⟩ = some (.int .i64 z.links) ∧ w'.cell? ⟨b, off + (j - 1) * 5 + 3, none⟩ = some (.int .i64 z.root) ∧ w'.cell? ⟨b, off + (j - 1) * 5 + 4, none⟩ = some (.int .i64 z.size))) (by kernel_rfl) (HKA.out _ HR1.out) (fun hHeld => ?_)
              refine take_oneH 17 (i := 0) (v := .pointer (some ⟨w.heap.size, 2, none⟩)) rfl rfl (by kernel_rfl) (by kernel_rfl) (by kernel_rfl) (fun _ _ _ h => h) (Or.inl ⟨by kernel_rfl, fun w hSw => by (go_simp)⟩) (by assumption) ?_
              simp only [Act.put, List.setIfInBounds_toArray, List.set_cons_zero, List.set_cons_succ]
              refine take_oneH 18 (i := 1) (v := .func (.func 67) #[] #[]) rfl rfl (by kernel_rfl) (by kernel_rfl) (by kernel_rfl) (fun _ _ _ h => h) (Or.inl ⟨by kernel_rfl, fun w hSw => by (go_simp)⟩) (by assumption) ?_
              simp only [Act.put, List.setIfInBounds_toArray, List.set_cons_zero, List.set_cons_succ]
              refine take_oneH 19 (i := 2) (v := .agg #[.int .i64 y.num, .bool y.dir, .int .i64 y.links, .int .i64 y.root, .int .i64 y.size]) rfl rfl (by kernel_rfl) (by kernel_rfl) (by kernel_rfl) (fun _ _ _ h => h) (Or.inl ⟨by kernel_rfl, fun w hSw => by (go_simp)⟩) (by assumption) ?_
              simp only [Act.put, List.setIfInBounds_toArray, List.set_cons_zero, List.set_cons_succ]
              refine wpAnyH_ready (rs := [3]) (by kernel_rfl) (by simp) ?_
              refine AllReadyH.cons rfl (fun K hK => ?_) (AllReadyH.nil)
              go_simp
              go_at_call 67
              refine (CM _).mono ?_
              rintro e v1 ⟨rfl, hB1⟩
              have K1 := Lib.hid hB1
              clear hB1
              go_wp2_with fail
              refine hK.out _ _ (HKA.out _ K1.out) (fun hHeld => ?_)
              clear hK K
              try simp only [Act.put, List.setIfInBounds_toArray, List.set_cons_zero, List.set_cons_succ]
              refine take_oneH 21 (i := 4) (v := .bool false) rfl rfl (by kernel_rfl) (by kernel_rfl) (by kernel_rfl) (fun _ _ _ h => h) (Or.inl ⟨by kernel_rfl, fun w hSw => by (go_simp)⟩) (by assumption) ?_
              simp only [Act.put, List.setIfInBounds_toArray, List.set_cons_zero, List.set_cons_succ]
              refine take_oneH 22 (i := 5) (v := .bool false) rfl rfl (by kernel_rfl) (by kernel_rfl) (by kernel_rfl) (fun _ _ _ h => h) (Or.inl ⟨by kernel_rfl, fun w hSw => by (go_simp)⟩) (by assumption) ?_
              simp only [Act.put, List.setIfInBounds_toArray, List.set_cons_zero, List.set_cons_succ]
              refine take_oneH 23 (i := 6) (v := .int .i64 ((j : Nat) : Int)) rfl rfl (by kernel_rfl) (by kernel_rfl) (by kernel_rfl) (fun _ _ _ h => h) (Or.inl ⟨by kernel_rfl, fun w hSw => by (go_simp)⟩) (by assumption) ?_
              simp only [Act.put, List.setIfInBounds_toArray, List.set_cons_zero, List.set_cons_succ]
              refine take_oneH 24 (i := 7) (v := .bool true) rfl rfl (by kernel_rfl) (by kernel_rfl) (by kernel_rfl) (fun _ _ _ h => h) (Or.inl ⟨by kernel_rfl, fun w hSw => by (go_simp)⟩) (by assumption) ?_
              simp only [Act.put, List.setIfInBounds_toArray, List.set_cons_zero, List.set_cons_succ]
              refine take_oneH 25 (i := 8) (v := .bool true) rfl rfl (by kernel_rfl) (by kernel_rfl) (by kernel_rfl) (fun _ _ _ h => h) (Or.inl ⟨by kernel_rfl, fun w hSw => by (go_simp)⟩) (by assumption) ?_
              simp only [Act.put, List.setIfInBounds_toArray, List.set_cons_zero, List.set_cons_succ]
              refine take_oneH 26 (i := 9) (v := .pointer (some ⟨w.heap.size, 3, none⟩)) rfl rfl (by kernel_rfl) (by kernel_rfl) (by kernel_rfl) (fun _ _ _ h => h) (Or.inl ⟨by kernel_rfl, fun w hSw => by (go_simp)⟩) (by assumption) ?_
              simp only [Act.put, List.setIfInBounds_toArray, List.set_cons_zero, List.set_cons_succ]
              refine take_oneH 27 (i := 10) (v := .func (.func 68) #[] #[]) rfl rfl (by kernel_rfl) (by kernel_rfl) (by kernel_rfl) (fun _ _ _ h => h) (Or.inl ⟨by kernel_rfl, fun w hSw => by (go_simp)⟩) (by assumption) ?_
              simp only [Act.put, List.setIfInBounds_toArray, List.set_cons_zero, List.set_cons_succ]
              refine take_oneH 28 (i := 11) (v := .slice (some ⟨b, off, none⟩) N cap) rfl rfl (by kernel_rfl) (by kernel_rfl) (by kernel_rfl) (fun _ _ _ h => h) (Or.inl ⟨by kernel_rfl, fun w hSw => by (go_simp)⟩) (by assumption) ?_
              simp only [Act.put, List.setIfInBounds_toArray, List.set_cons_zero, List.set_cons_succ]
              refine take_oneH 29 (i := 12) (v := .int .i64 ((j : Nat) : Int)) rfl rfl (by kernel_rfl) (by kernel_rfl) (by kernel_rfl) (fun _ _ _ h => h) (Or.inl ⟨by kernel_rfl, fun w hSw => by (go_simp)⟩) (by assumption) ?_
              simp only [Act.put, List.setIfInBounds_toArray, List.set_cons_zero, List.set_cons_succ]
              refine take_oneH 30 (i := 13) (v := .int .i64 ((j - 1 : Nat) : Int)) rfl rfl (by kernel_rfl) (by kernel_rfl) (by kernel_rfl) (fun _ _ _ h => h) (Or.inl ⟨by kernel_rfl, fun w hSw => by (go_simp)⟩) (by assumption) ?_
              simp only [Act.put, List.setIfInBounds_toArray, List.set_cons_zero, List.set_cons_succ]
              refine take_oneH 31 (i := 14) (v := .pointer (some ⟨b, off + (j - 1) * 5, none⟩)) rfl rfl (by kernel_rfl) (by kernel_rfl) (by kernel_rfl) (fun _ _ _ h => h) (Or.inl ⟨by kernel_rfl, fun w hSw => by (go_simp)⟩) (by assumption) ?_
              simp only [Act.put, List.setIfInBounds_toArray, List.set_cons_zero, List.set_cons_succ]
              refine take_oneH 32 (i := 15) (v := .agg #[.int .i64 z.num, .bool z.dir, .int .i64 z.links, .int .i64 z.root, .int .i64 z.size]) rfl rfl (by kernel_rfl) (by kernel_rfl) (by kernel_rfl) (fun _ _ _ h => h) (Or.inl ⟨by kernel_rfl, fun w hSw => by (go_simp)⟩) (by assumption) ?_
              simp only [Act.put, List.setIfInBounds_toArray, List.set_cons_zero, List.set_cons_succ]
              refine take_oneH 33 (i := 16) (v := .agg #[.int .i64 y.num, .bool y.dir, .int .i64 y.links, .int .i64 y.root, .int .i64 y.size]) rfl rfl (by kernel_rfl) (by kernel_rfl) (by kernel_rfl) (fun _ _ _ h => h) (Or.inl ⟨by kernel_rfl, fun w hSw => by (go_simp)⟩) (by assumption) ?_
              simp only [Act.put, List.setIfInBounds_toArray, List.set_cons_zero, List.set_cons_succ]
              refine wpAnyH_ready (rs := [17]) (by kernel_rfl) (by simp) ?_
              refine AllReadyH.cons rfl (fun K hK => ?_) (AllReadyH.nil)
              go_simp
              go_at_call 68
              refine (CL _).mono ?_
              rintro e v2 ⟨rfl, hB2⟩
              have K2 := Lib.hid (K1.out.trans (hB2.mono K1.out.size))
              clear hB2
              go_wp2_with fail
              refine hK.out _ _ (HKA.out _ K2.out) (fun hHeld => ?_)
              clear hK K
              try simp only [Act.put, List.setIfInBounds_toArray, List.set_cons_zero, List.set_cons_succ]
              refine take_oneH 35 (i := 18) (v := .bool true) rfl rfl (by kernel_rfl) (by kernel_rfl) (by kernel_rfl) (fun _ _ _ h => h) (Or.inl ⟨by kernel_rfl, fun w hSw => by (go_simp)⟩) (by assumption) ?_
              simp only [Act.put, List.setIfInBounds_toArray, List.set_cons_zero, List.set_cons_succ]
              refine take_oneH 36 (i := 19) (v := .bool true) rfl rfl (by kernel_rfl) (by kernel_rfl) (by kernel_rfl) (fun _ _ _ h => h) (Or.inl ⟨by kernel_rfl, fun w hSw => by (go_simp)⟩) (by assumption) ?_
              simp only [Act.put, List.setIfInBounds_toArray, List.set_cons_zero, List.set_cons_succ]
              refine take_oneH 37 (i := 20) (v := .bool true) rfl rfl (by kernel_rfl) (by kernel_rfl) (by kernel_rfl) (fun _ _ _ h => h) (Or.inl ⟨by kernel_rfl, fun w hSw => by (go_simp)⟩) (by assumption) ?_
              simp only [Act.put, List.setIfInBounds_toArray, List.set_cons_zero, List.set_cons_succ]
              refine wpAnyH_done (by kernel_rfl) ?_ _
              clear CM
              go_wp2
              go_ret
              exact ⟨by rw [HF.out]; rfl, HA.out.trans ((HU.out.trans (K2.out.mono HU.out.size)).mono HA.out.size)⟩
            | true =>
              have HE := Lib.hid (HM.out.succ hl HOK.out (fun _ => by rw [HY.out, HZ.out]; exact of_decide_eq_true (p := (z.num < y.num)) HQ.out))
              go_wp2_with fail
              refine wp_region_held_drew (S := fun w' => (w'.cell? ⟨w.heap.size, 2, none⟩ = some (.func (.func 67) #[] #[]) ∧ w'.cell? ⟨wr.heap.size, 0, none⟩ = some (.int .i64 y.num) ∧ w'.cell? ⟨wr.heap.size, 1, none⟩ = some (.bool y.dir) ∧ w'.cell? ⟨wr.heap.size, 2, none⟩ = some (.int .i64 y.links) ∧ w'.cell? ⟨wr.heap.size, 3, none⟩ = some (.int .i64 y.root) ∧ w'.cell? ⟨wr.heap.size, 4, none⟩ = some (.int .i64 y.size) ∧ w'.cell? ⟨w.heap.size, 3, none⟩ = some (.func (.func 68) #[] #[])) ∧ (w'.cell? ⟨b, off + (j - 1) * 5, none⟩ = some (.int .i64 z.num) ∧ w'.cell? ⟨b, off + (j - 1) * 5 + 1, none⟩ = some (.bool z.dir) ∧ w'.cell? ⟨b, off + (j - 1) * 5 + 2, none⟩ = some (.int .i64 z.links) ∧ w'.cell? ⟨b, off + (j - 1) * 5 + 3, none⟩ = some (.int .i64 z.root) ∧ w'.cell? ⟨b, off + (j - 1) * 5 + 4, none⟩ = some (.int .i64 z.size))) (by kernel_rfl) (HKA.out _ HR1.out) (fun hHeld => ?_)
              refine take_oneH 17 (i := 0) (v := .pointer (some ⟨w.heap.size, 2, none⟩)) rfl rfl (by kernel_rfl) (by kernel_rfl) (by kernel_rfl) (fun _ _ _ h => h) (Or.inl ⟨by kernel_rfl, fun w hSw => by (go_simp)⟩) (by assumption) ?_
              simp only [Act.put, List.setIfInBounds_toArray, List.set_cons_zero, List.set_cons_succ]
              refine take_oneH 18 (i := 1) (v := .func (.func 67) #[] #[]) rfl rfl (by kernel_rfl) (by kernel_rfl) (by kernel_rfl) (fun _ _ _ h => h) (Or.inl ⟨by kernel_rfl, fun w hSw => by (go_simp)⟩) (by assumption) ?_
              simp only [Act.put, List.setIfInBounds_toArray, List.set_cons_zero, List.set_cons_succ]
              refine take_oneH 19 (i := 2) (v := .agg #[.int .i64 y.num, .bool y.dir, .int .i64 y.links, .int .i64 y.root, .int .i64 y.size]) rfl rfl (by kernel_rfl) (by kernel_rfl) (by kernel_rfl) (fun _ _ _ h => h) (Or.inl ⟨by kernel_rfl, fun w hSw => by (go_simp)⟩) (by assumption) ?_
              simp only [Act.put, List.setIfInBounds_toArray, List.set_cons_zero, List.set_cons_succ]
              refine wpAnyH_ready (rs := [3]) (by kernel_rfl) (by simp) ?_
              refine AllReadyH.cons rfl (fun K hK => ?_) (AllReadyH.nil)
              go_simp
              go_at_call 67
              refine (CM _).mono ?_
              rintro e v1 ⟨rfl, hB1⟩
              have K1 := Lib.hid hB1
              clear hB1
              go_wp2_with fail
              refine hK.out _ _ (HKA.out _ K1.out) (fun hHeld => ?_)
              clear hK K
              try simp only [Act.put, List.setIfInBounds_toArray, List.set_cons_zero, List.set_cons_succ]
              refine take_oneH 21 (i := 4) (v := .bool false) rfl rfl (by kernel_rfl) (by kernel_rfl) (by kernel_rfl) (fun _ _ _ h => h) (Or.inl ⟨by kernel_rfl, fun w hSw => by (go_simp)⟩) (by assumption) ?_
              simp only [Act.put, List.setIfInBounds_toArray, List.set_cons_zero, List.set_cons_succ]
              refine take_oneH 22 (i := 5) (v := .bool false) rfl rfl (by kernel_rfl) (by kernel_rfl) (by kernel_rfl) (fun _ _ _ h => h) (Or.inl ⟨by kernel_rfl, fun w hSw => by (go_simp)⟩) (by assumption) ?_
              simp only [Act.put, List.setIfInBounds_toArray, List.set_cons_zero, List.set_cons_succ]
              refine take_oneH 23 (i := 6) (v := .int .i64 ((j : Nat) : Int)) rfl rfl (by kernel_rfl) (by kernel_rfl) (by kernel_rfl) (fun _ _ _ h => h) (Or.inl ⟨by kernel_rfl, fun w hSw => by (go_simp)⟩) (by assumption) ?_
              simp only [Act.put, List.setIfInBounds_toArray, List.set_cons_zero, List.set_cons_succ]
              refine take_oneH 24 (i := 7) (v := .bool true) rfl rfl (by kernel_rfl) (by kernel_rfl) (by kernel_rfl) (fun _ _ _ h => h) (Or.inl ⟨by kernel_rfl, fun w hSw => by (go_simp)⟩) (by assumption) ?_
              simp only [Act.put, List.setIfInBounds_toArray, List.set_cons_zero, List.set_cons_succ]
              refine take_oneH 25 (i := 8) (v := .bool true) rfl rfl (by kernel_rfl) (by kernel_rfl) (by kernel_rfl) (fun _ _ _ h => h) (Or.inl ⟨by kernel_rfl, fun w hSw => by (go_simp)⟩) (by assumption) ?_
              simp only [Act.put, List.setIfInBounds_toArray, List.set_cons_zero, List.set_cons_succ]
              refine take_oneH 26 (i := 9) (v := .pointer (some ⟨w.heap.size, 3, none⟩)) rfl rfl (by kernel_rfl) (by kernel_rfl) (by kernel_rfl) (fun _ _ _ h => h) (Or.inl ⟨by kernel_rfl, fun w hSw => by (go_simp)⟩) (by assumption) ?_
              simp only [Act.put, List.setIfInBounds_toArray, List.set_cons_zero, List.set_cons_succ]
              refine take_oneH 27 (i := 10) (v := .func (.func 68) #[] #[]) rfl rfl (by kernel_rfl) (by kernel_rfl) (by kernel_rfl) (fun _ _ _ h => h) (Or.inl ⟨by kernel_rfl, fun w hSw => by (go_simp)⟩) (by assumption) ?_
              simp only [Act.put, List.setIfInBounds_toArray, List.set_cons_zero, List.set_cons_succ]
              refine take_oneH 28 (i := 11) (v := .slice (some ⟨b, off, none⟩) N cap) rfl rfl (by kernel_rfl) (by kernel_rfl) (by kernel_rfl) (fun _ _ _ h => h) (Or.inl ⟨by kernel_rfl, fun w hSw => by (go_simp)⟩) (by assumption) ?_
              simp only [Act.put, List.setIfInBounds_toArray, List.set_cons_zero, List.set_cons_succ]
              refine take_oneH 29 (i := 12) (v := .int .i64 ((j : Nat) : Int)) rfl rfl (by kernel_rfl) (by kernel_rfl) (by kernel_rfl) (fun _ _ _ h => h) (Or.inl ⟨by kernel_rfl, fun w hSw => by (go_simp)⟩) (by assumption) ?_
              simp only [Act.put, List.setIfInBounds_toArray, List.set_cons_zero, List.set_cons_succ]
              refine take_oneH 30 (i := 13) (v := .int .i64 ((j - 1 : Nat) : Int)) rfl rfl (by kernel_rfl) (by kernel_rfl) (by kernel_rfl) (fun _ _ _ h => h) (Or.inl ⟨by kernel_rfl, fun w hSw => by (go_simp)⟩) (by assumption) ?_
              simp only [Act.put, List.setIfInBounds_toArray, List.set_cons_zero, List.set_cons_succ]
              refine take_oneH 31 (i := 14) (v := .pointer (some ⟨b, off + (j - 1) * 5, none⟩)) rfl rfl (by kernel_rfl) (by kernel_rfl) (by kernel_rfl) (fun _ _ _ h => h) (Or.inl ⟨by kernel_rfl, fun w hSw => by (go_simp)⟩) (by assumption) ?_
              simp only [Act.put, List.setIfInBounds_toArray, List.set_cons_zero, List.set_cons_succ]
              refine take_oneH 32 (i := 15) (v := .agg #[.int .i64 z.num, .bool z.dir, .int .i64 z.links, .int .i64 z.root, .int .i64 z.size]) rfl rfl (by kernel_rfl) (by kernel_rfl) (by kernel_rfl) (fun _ _ _ h => h) (Or.inl ⟨by kernel_rfl, fun w hSw => by (go_simp)⟩) (by assumption) ?_
              simp only [Act.put, List.setIfInBounds_toArray, List.set_cons_zero, List.set_cons_succ]
              refine take_oneH 33 (i := 16) (v := .agg #[.int .i64 y.num, .bool y.dir, .int .i64 y.links, .int .i64 y.root, .int .i64 y.size]) rfl rfl (by kernel_rfl) (by kernel_rfl) (by kernel_rfl) (fun _ _ _ h => h) (Or.inl ⟨by kernel_rfl, fun w hSw => by (go_simp)⟩) (by assumption) ?_
              simp only [Act.put, List.setIfInBounds_toArray, List.set_cons_zero, List.set_cons_succ]
              refine wpAnyH_ready (rs := [17]) (by kernel_rfl) (by simp) ?_
              refine AllReadyH.cons rfl (fun K hK => ?_) (AllReadyH.nil)
              go_simp
              go_at_call 68
              refine (CL _).mono ?_
              rintro e v2 ⟨rfl, hB2⟩
              have K2 := Lib.hid (K1.out.trans (hB2.mono K1.out.size))
              clear hB2
              go_wp2_with fail
              refine hK.out _ _ (HKA.out _ K2.out) (fun hHeld => ?_)
              clear hK K
              try simp only [Act.put, List.setIfInBounds_toArray, List.set_cons_zero, List.set_cons_succ]
              refine take_oneH 35 (i := 18) (v := .bool false) rfl rfl (by kernel_rfl) (by kernel_rfl) (by kernel_rfl) (fun _ _ _ h => h) (Or.inl ⟨by kernel_rfl, fun w hSw => by (go_simp)⟩) (by assumption) ?_
              simp only [Act.put, List.setIfInBounds_toArray, List.set_cons_zero, List.set_cons_succ]
              refine take_oneH 36 (i := 19) (v := .bool false) rfl rfl (by kernel_rfl) (by kernel_rfl) (by kernel_rfl) (fun _ _ _ h => h) (Or.inl ⟨by kernel_rfl, fun w hSw => by (go_simp)⟩) (by assumption) ?_
              simp only [Act.put, List.setIfInBounds_toArray, List.set_cons_zero, List.set_cons_succ]
              refine take_oneH 37 (i := 20) (v := .bool false) rfl rfl (by kernel_rfl) (by kernel_rfl) (by kernel_rfl) (fun _ _ _ h => h) (Or.inl ⟨by kernel_rfl, fun w hSw => by (go_simp)⟩) (by assumption) ?_
              simp only [Act.put, List.setIfInBounds_toArray, List.set_cons_zero, List.set_cons_succ]
              refine wpAnyH_done (by kernel_rfl) ?_ _
              clear CM
              go_wp2
              go_roundw
              case rel => exact ⟨j + 1, hlt, by go_num, HE.out, HB.out.trans ((HU.out.trans (K2.out.mono HU.out.size)).mono HB.out.size)⟩
              case measure => simp [intOf]; omega
      · obtain rfl : j = N := by omega
        have HF := Lib.hid (show R = true by rw [← HR.out]; exact mayB_yes ⟨by rw [HN.out]; omega, by rw [HN.out]; exact HM.out⟩)
        go_wp2
        go_ret
        exact ⟨by rw [HF.out]; rfl, HB0.out.trans (HB.out.mono HB0.out.size)⟩
/-- what package tables knows of entries -/
def tblEnt : Value := .agg #[.func (.func 60) #[] #[], .func (.func 61) #[] #[], .func (.func 62) #[] #[], .func (.func 63) #[] #[]]
def tblOEnt : Obj := .cells #[.func (.func 60) #[] #[], .func (.func 61) #[] #[], .func (.func 62) #[] #[], .func (.func 63) #[] #[]] 88 (0, 0)
theorem entT_any (w : World) : Calls Tryz.prog 45 #[] w fun e w' => e = .returned tblEnt ∧ Below w.heap.size w w' := by
  unfold tblEnt
  obtain ⟨u0, hu0⟩ : ∃ u, w.alloc (.cells #[.nilFunc, .nilFunc, .nilFunc, .nilFunc] 88) = u := ⟨_, rfl⟩
  have hx : u0.heap[w.heap.size]? = some (.cells #[.nilFunc, .nilFunc, .nilFunc, .nilFunc] 88 (0, 0)) := by rw [← hu0]; exact heap_alloc_new w _
  have c0 : u0.cell? ⟨w.heap.size, 0, none⟩ = some .nilFunc := by simp [World.cell?, hx]
  have f0 : u0.frozen? ⟨w.heap.size, 0, none⟩ = false := by simp [World.frozen?, hx]
  have c1 : u0.cell? ⟨w.heap.size, 1, none⟩ = some .nilFunc := by simp [World.cell?, hx]
  have f1 : u0.frozen? ⟨w.heap.size, 1, none⟩ = false := by simp [World.frozen?, hx]
  have c2 : u0.cell? ⟨w.heap.size, 2, none⟩ = some .nilFunc := by simp [World.cell?, hx]
  have f2 : u0.frozen? ⟨w.heap.size, 2, none⟩ = false := by simp [World.frozen?, hx]
  have c3 : u0.cell? ⟨w.heap.size, 3, none⟩ = some .nilFunc := by simp [World.cell?, hx]
  have f3 : u0.frozen? ⟨w.heap.size, 3, none⟩ = false := by simp [World.frozen?, hx]
  have hB : Below w.heap.size w u0 := by rw [← hu0]; exact (Below.refl _ w).alloc (Nat.le_refl _) _
  obtain ⟨u1, hu1⟩ : ∃ u, ((((u0.setCell ⟨w.heap.size, 0, none⟩ (.func (.func 60) #[] #[])).setCell ⟨w.heap.size, 1, none⟩ (.func (.func 61) #[] #[])).setCell ⟨w.heap.size, 2, none⟩ (.func (.func 62) #[] #[])).setCell ⟨w.heap.size, 3, none⟩ (.func (.func 63) #[] #[])) = u := ⟨_, rfl⟩
  have hy : u1.heap[w.heap.size]? = some (.cells #[.func (.func 60) #[] #[], .func (.func 61) #[] #[], .func (.func 62) #[] #[], .func (.func 63) #[] #[]] 88 (0, 0)) := by rw [← hu1]; exact (heap_set (heap_set (heap_set (heap_set hx (i := 0) (.func (.func 60) #[] #[])) (i := 1) (.func (.func 61) #[] #[])) (i := 2) (.func (.func 62) #[] #[])) (i := 3) (.func (.func 63) #[] #[]))
  have HB := Lib.hid (show Below w.heap.size w u1 by rw [← hu1]; exact ((((hB.setCell (p := ⟨w.heap.size, 0, none⟩) (Nat.le_refl _) (.func (.func 60) #[] #[])).setCell (p := ⟨w.heap.size, 1, none⟩) (Nat.le_refl _) (.func (.func 61) #[] #[])).setCell (p := ⟨w.heap.size, 2, none⟩) (Nat.le_refl _) (.func (.func 62) #[] #[])).setCell (p := ⟨w.heap.size, 3, none⟩) (Nat.le_refl _) (.func (.func 63) #[] #[])))
  have g0 : u1.cell? ⟨w.heap.size, 0, none⟩ = some (.func (.func 60) #[] #[]) := by simp [World.cell?, hy]
  have g1 : u1.cell? ⟨w.heap.size, 1, none⟩ = some (.func (.func 61) #[] #[]) := by simp [World.cell?, hy]
  have g2 : u1.cell? ⟨w.heap.size, 2, none⟩ = some (.func (.func 62) #[] #[]) := by simp [World.cell?, hy]
  have g3 : u1.cell? ⟨w.heap.size, 3, none⟩ = some (.func (.func 63) #[] #[]) := by simp [World.cell?, hy]
  clear hx hy hB
  go_enter Tryz.func45, Tryz.ntmps45
  go_wp2
  refine bodyPost_ret ?_ rfl ⟨rfl, HB.out⟩
  rw [results_cell_one rfl]
  go_simp
  try rfl
theorem ent_load {W : World} {b off : Nat} {l : List Ent} (h : ∀ j (_ : j < l.length) (i : Nat) (_ : i < 2), W.cell? ⟨b, off + j * 2 + i, none⟩ = (entC l[j])[i]?) (j : Nat) (hj : j < l.length) :
    W.cell? ⟨b, off + j * 2, none⟩ = some (.string l[j].name) ∧ W.cell? ⟨b, off + j * 2 + 1, none⟩ = some (.int .i64 l[j].num) := by
  refine ⟨h j hj 0 (by omega), h j hj 1 (by omega)⟩
set_option maxRecDepth 100000 in
set_option maxHeartbeats 4000000 in
theorem entMay_any (v : Value) (l : List Ent) (hn : l.length ≤ 9223372036854775807) (hs : ∀ x ∈ l, x.name.size ≤ 140737488355328) (w : World) (h : LstAt entC 2 w v l) :
    Calls Tryz.prog 59 #[tblEnt, v] w fun e w' => e = .returned (.bool (mayB kE l)) ∧ Below w.heap.size w w' := by
  obtain ⟨R, hR⟩ : ∃ R, mayB kE l = R := ⟨_, rfl⟩
  rw [hR]
  have HR := Lib.hid hR
  clear hR
  obtain ⟨a, cap, rfl, hc⟩ := h
  obtain ⟨N, hN⟩ : ∃ N, l.length = N := ⟨_, rfl⟩
  rw [hN] at hn ⊢
  obtain ⟨w0, hw0⟩ : ∃ w0, w.alloc tblOEnt = w0 := ⟨_, rfl⟩
  have HB0 := Lib.hid (show Below w.heap.size w w0 by rw [← hw0]; exact (Below.refl _ w).alloc (Nat.le_refl _) _)
  have HO := Lib.hid (show w0.heap[w.heap.size]? = some tblOEnt by rw [← hw0]; exact heap_alloc_new w _)
  unfold tblOEnt at hw0
  unfold tblEnt
  have HC := Lib.hid hc
  have HN := Lib.hid hN
  have HS := Lib.hid hs
  clear hc hN hs
  by_cases h4 : 4096 < N
  · have h4i : (4096 : Int) < (N : Int) := by omega
    have HF := Lib.hid (show R = false by rw [← HR.out]; exact mayB_no (not_may_long (by rw [HN.out]; exact h4)))
    clear h4
    go_enter Tryz.func59, Tryz.ntmps59
    go_wp2
    go_ret
    exact ⟨by rw [HF.out]; rfl, HB0.out⟩
  · have h4i : (N : Int) ≤ 4096 := by omega
    clear h4
    go_enter Tryz.func59, Tryz.ntmps59
    go_wp2_with fail
    go_loopw [12] (fun i wr => ∃ j : Nat, j ≤ N ∧ i = .int .i64 j ∧ MayTo kE l j ∧ Below w0.heap.size w0 wr) (fun i _ => N - (intOf i).toNat)
    case atStart => exact ⟨0, Nat.zero_le _, rfl, MayTo.zero l, Below.refl _ _⟩
    case round =>
      obtain ⟨j, hj, rfl, hm, hB⟩ := hrel
      have HM := Lib.hid hm
      have HB := Lib.hid hB
      clear hm hB
      by_cases hlt : j < N
      · have hl : j < l.length := by rw [HN.out]; exact hlt
        have hji : (j : Int) < (N : Int) := by omega
        obtain ⟨b, off, rfl, hb, hcells⟩ := HC.out (by intro e; rw [e] at hl; simp at hl)
        have HA := Lib.hid (HB0.out.trans (HB.out.mono HB0.out.size))
        obtain ⟨wr', hwr⟩ : ∃ u, u = wr := ⟨_, rfl⟩
        have HCL := Lib.hid (fun (W : World) (hW : Below wr.heap.size wr W) => ent_load (W := W) (b := b) (off := off) (l := l) (fun j hj i hi => (World.cell?_of_block (w := w) ((HA.out.trans (hW.mono HA.out.size)).block b hb)).trans (hcells j hj i hi)))
        clear hcells hwr wr'
        obtain ⟨y, hy⟩ : ∃ y, l[j] = y := ⟨_, rfl⟩
        obtain ⟨c0, c1⟩ := HCL.out wr (Below.refl _ wr) j hl
        rw [hy] at c0 c1
        have HY := Lib.hid hy
        have hys : y.name.size ≤ 140737488355328 := by rw [← hy]; exact HS.out _ (List.getElem_mem hl)
        clear hy
        obtain ⟨u0, hu0⟩ : ∃ u, wr.alloc (.cells #[.string ⟨#[]⟩, .int .i64 0] 58) = u := ⟨_, rfl⟩
        have hx0 : u0.heap[wr.heap.size]? = some (.cells #[.string ⟨#[]⟩, .int .i64 0] 58 (0, 0)) := by rw [← hu0]; exact heap_alloc_new wr _
        have z0 : u0.cell? ⟨wr.heap.size, 0, none⟩ = some (.string ⟨#[]⟩) := by simp [World.cell?, hx0]
        have z1 : u0.cell? ⟨wr.heap.size, 1, none⟩ = some (.int .i64 0) := by simp [World.cell?, hx0]
        have f0 : u0.frozen? ⟨wr.heap.size, 0, none⟩ = false := by simp [World.frozen?, hx0]
        have f1 : u0.frozen? ⟨wr.heap.size, 1, none⟩ = false := by simp [World.frozen?, hx0]
        have hu : Below wr.heap.size wr u0 := by rw [← hu0]; exact (Below.refl _ wr).alloc (Nat.le_refl _) _
        obtain ⟨u1, hu1⟩ : ∃ u, ((u0.setCell ⟨wr.heap.size, 0, none⟩ (.string y.name)).setCell ⟨wr.heap.size, 1, none⟩ (.int .i64 y.num)) = u := ⟨_, rfl⟩
        have HX := Lib.hid (show u1.heap[wr.heap.size]? = some (.cells #[.string y.name, .int .i64 y.num] 58 (0, 0)) by rw [← hu1]; exact (heap_set (heap_set hx0 (i := 0) (.string y.name)) (i := 1) (.int .i64 y.num)))
        have HU := Lib.hid (show Below wr.heap.size wr u1.drew by rw [← hu1]; exact Below.drew ((hu.setCell (p := ⟨wr.heap.size, 0, none⟩) (Nat.le_refl _) (.string y.name)).setCell (p := ⟨wr.heap.size, 1, none⟩) (Nat.le_refl _) (.int .i64 y.num)))
        clear hx0 hu
        have HK := Lib.hid (show ∀ W, Below u1.drew.heap.size u1.drew W → W.cell? ⟨w.heap.size, 2, none⟩ = some (.func (.func 62) #[] #[]) ∧ W.cell? ⟨wr.heap.size, 0, none⟩ = some (.string y.name) ∧ W.cell? ⟨wr.heap.size, 1, none⟩ = some (.int .i64 y.num) ∧ W.cell? ⟨w.heap.size, 3, none⟩ = some (.func (.func 63) #[] #[]) from fun W hW => by
          have e := (hW.block _ (lt_of_heap HX.out)).trans HX.out
          have hl0 : w.heap.size < wr.heap.size := Nat.lt_of_lt_of_le (lt_of_heap HO.out) HB.out.size
          have e2 := (hW.block _ (Nat.lt_of_lt_of_le hl0 HU.out.size)).trans ((HU.out.block _ hl0).trans ((HB.out.block _ (lt_of_heap HO.out)).trans HO.out))
          exact ⟨by simp [World.cell?, e2, tblOEnt], by simp [World.cell?, e], by simp [World.cell?, e], by simp [World.cell?, e2, tblOEnt]⟩)
        have CM := fun w => entM_any y hys w
        unfold entV at CM
        have HR1 := Lib.hid (Below.refl u1.drew.heap.size u1.drew)
        obtain ⟨p, hp⟩ : ∃ p, okEB y = p := ⟨_, rfl⟩
        rw [hp] at CM
        have HP := Lib.hid hp
        clear hp hb hys
        cases p with
        | false =>
          have HF := Lib.hid (show R = false by rw [← HR.out]; exact mayB_no (not_may_ok hl (by rw [HY.out]; exact fun e => by have e2 := (okEB_iff y).2 e; rw [HP.out] at e2; cases e2)))
          go_wp2_with fail
          refine wp_region_held_drew (S := fun w' => w'.cell? ⟨w.heap.size, 2, none⟩ = some (.func (.func 62) #[] #[]) ∧ w'.cell? ⟨wr.heap.size, 0, none⟩ = some (.string y.name) ∧ w'.cell? ⟨wr.heap.size, 1, none⟩ = some (.int .i64 y.num) ∧ w'.cell? ⟨w.heap.size, 3, none⟩ = some (.func (.func 63) #[] #[])) (by kernel_rfl) (HK.out _ HR1.out) (fun hHeld => ?_)
          refine take_oneH 17 (i := 0) (v := .pointer (some ⟨w.heap.size, 2, none⟩)) rfl rfl (by kernel_rfl) (by kernel_rfl) (by kernel_rfl) (fun _ _ _ h => h) (Or.inl ⟨by kernel_rfl, fun w hSw => by (go_simp)⟩) (by assumption) ?_
          simp only [Act.put, List.setIfInBounds_toArray, List.set_cons_zero, List.set_cons_succ]
          refine take_oneH 18 (i := 1) (v := .func (.func 62) #[] #[]) rfl rfl (by kernel_rfl) (by kernel_rfl) (by kernel_rfl) (fun _ _ _ h => h) (Or.inl ⟨by kernel_rfl, fun w hSw => by (go_simp)⟩) (by assumption) ?_
          simp only [Act.put, List.setIfInBounds_toArray, List.set_cons_zero, List.set_cons_succ]
          refine take_oneH 19 (i := 2) (v := .agg #[.string y.name, .int .i64 y.num]) rfl rfl (by kernel_rfl) (by kernel_rfl) (by kernel_rfl) (fun _ _ _ h => h) (Or.inl ⟨by kernel_rfl, fun w hSw => by (go_simp)⟩) (by assumption) ?_
          simp only [Act.put, List.setIfInBounds_toArray, List.set_cons_zero, List.set_cons_succ]
          refine wpAnyH_ready (rs := [3]) (by kernel_rfl) (by simp) ?_
          refine AllReadyH.cons rfl (fun K hK => ?_) (AllReadyH.nil)
          go_simp
          go_at_call 62
          refine (CM _).mono ?_
          rintro e v1 ⟨rfl, hB1⟩
          have K1 := Lib.hid hB1
          clear hB1
          go_wp2_with fail
          refine hK.out _ _ (HK.out _ K1.out) (fun hHeld => ?_)
          clear hK K
          try simp only [Act.put, List.setIfInBounds_toArray, List.set_cons_zero, List.set_cons_succ]
          refine take_oneH 21 (i := 4) (v := .bool true) rfl rfl (by kernel_rfl) (by kernel_rfl) (by kernel_rfl) (fun _ _ _ h => h) (Or.inl ⟨by kernel_rfl, fun w hSw => by (go_simp)⟩) (by assumption) ?_
          simp only [Act.put, List.setIfInBounds_toArray, List.set_cons_zero, List.set_cons_succ]
          refine take_oneH 22 (i := 5) (v := .bool true) rfl rfl (by kernel_rfl) (by kernel_rfl) (by kernel_rfl) (fun _ _ _ h => h) (Or.inl ⟨by kernel_rfl, fun w hSw => by (go_simp)⟩) (by assumption) ?_
          simp only [Act.put, List.setIfInBounds_toArray, List.set_cons_zero, List.set_cons_succ]
          refine take_oneH 23 (i := 6) (v := undef) rfl rfl (by kernel_rfl) (by kernel_rfl) (by kernel_rfl) (fun _ _ _ h => h) (Or.inr ⟨by kernel_rfl, rfl⟩) (by assumption) ?_
          simp only [Act.put, List.setIfInBounds_toArray, List.set_cons_zero, List.set_cons_succ]
          refine take_oneH 24 (i := 7) (v := undef) rfl rfl (by kernel_rfl) (by kernel_rfl) (by kernel_rfl) (fun _ _ _ h => h) (Or.inr ⟨by kernel_rfl, rfl⟩) (by assumption) ?_
          simp only [Act.put, List.setIfInBounds_toArray, List.set_cons_zero, List.set_cons_succ]
          refine take_oneH 25 (i := 8) (v := undef) rfl rfl (by kernel_rfl) (by kernel_rfl) (by kernel_rfl) (fun _ _ _ h => h) (Or.inr ⟨by kernel_rfl, rfl⟩) (by assumption) ?_
          simp only [Act.put, List.setIfInBounds_toArray, List.set_cons_zero, List.set_cons_succ]
          refine take_oneH 26 (i := 9) (v := undef) rfl rfl (by kernel_rfl) (by kernel_rfl) (by kernel_rfl) (fun _ _ _ h => h) (Or.inr ⟨by kernel_rfl, rfl⟩) (by assumption) ?_
          simp only [Act.put, List.setIfInBounds_toArray, List.set_cons_zero, List.set_cons_succ]
          refine take_oneH 27 (i := 10) (v := undef) rfl rfl (by kernel_rfl) (by kernel_rfl) (by kernel_rfl) (fun _ _ _ h => h) (Or.inr ⟨by kernel_rfl, rfl⟩) (by assumption) ?_
          simp only [Act.put, List.setIfInBounds_toArray, List.set_cons_zero, List.set_cons_succ]
          refine take_oneH 28 (i := 11) (v := undef) rfl rfl (by kernel_rfl) (by kernel_rfl) (by kernel_rfl) (fun _ _ _ h => h) (Or.inr ⟨by kernel_rfl, rfl⟩) (by assumption) ?_
          simp only [Act.put, List.setIfInBounds_toArray, List.set_cons_zero, List.set_cons_succ]
          refine take_oneH 29 (i := 12) (v := undef) rfl rfl (by kernel_rfl) (by kernel_rfl) (by kernel_rfl) (fun _ _ _ h => h) (Or.inr ⟨by kernel_rfl, rfl⟩) (by assumption) ?_
          simp only [Act.put, List.setIfInBounds_toArray, List.set_cons_zero, List.set_cons_succ]
          refine take_oneH 30 (i := 13) (v := undef) rfl rfl (by kernel_rfl) (by kernel_rfl) (by kernel_rfl) (fun _ _ _ h => h) (Or.inr ⟨by kernel_rfl, rfl⟩) (by assumption) ?_
          simp only [Act.put, List.setIfInBounds_toArray, List.set_cons_zero, List.set_cons_succ]
          refine take_oneH 31 (i := 14) (v := undef) rfl rfl (by kernel_rfl) (by kernel_rfl) (by kernel_rfl) (fun _ _ _ h => h) (Or.inr ⟨by kernel_rfl, rfl⟩) (by assumption) ?_
          simp only [Act.put, List.setIfInBounds_toArray, List.set_cons_zero, List.set_cons_succ]
          refine take_oneH 32 (i := 15) (v := undef) rfl rfl (by kernel_rfl) (by kernel_rfl) (by kernel_rfl) (fun _ _ _ h => h) (Or.inr ⟨by kernel_rfl, rfl⟩) (by assumption) ?_
          simp only [Act.put, List.setIfInBounds_toArray, List.set_cons_zero, List.set_cons_succ]
          refine take_oneH 33 (i := 16) (v := undef) rfl rfl (by kernel_rfl) (by kernel_rfl) (by kernel_rfl) (fun _ _ _ h => h) (Or.inr ⟨by kernel_rfl, rfl⟩) (by assumption) ?_
          simp only [Act.put, List.setIfInBounds_toArray, List.set_cons_zero, List.set_cons_succ]
          refine take_oneH 34 (i := 17) (v := undef) rfl rfl (by kernel_rfl) (by kernel_rfl) (by kernel_rfl) (fun _ _ _ h => h) (Or.inr ⟨by kernel_rfl, rfl⟩) (by assumption) ?_
          simp only [Act.put, List.setIfInBounds_toArray, List.set_cons_zero, List.set_cons_succ]
          refine take_oneH 35 (i := 18) (v := undef) rfl rfl (by kernel_rfl) (by kernel_rfl) (by kernel_rfl) (fun _ _ _ h => h) (Or.inr ⟨by kernel_rfl, rfl⟩) (by assumption) ?_
          simp only [Act.put, List.setIfInBounds_toArray, List.set_cons_zero, List.set_cons_succ]
          refine take_oneH 36 (i := 19) (v := undef) rfl rfl (by kernel_rfl) (by kernel_rfl) (by kernel_rfl) (fun _ _ _ h => h) (Or.inr ⟨by kernel_rfl, rfl⟩) (by assumption) ?_
          simp only [Act.put, List.setIfInBounds_toArray, List.set_cons_zero, List.set_cons_succ]
          refine take_oneH 37 (i := 20) (v := .bool true) rfl rfl (by kernel_rfl) (by kernel_rfl) (by kernel_rfl) (fun _ _ _ h => h) (Or.inl ⟨by kernel_rfl, fun w hSw => by (go_simp)⟩) (by assumption) ?_
          simp only [Act.put, List.setIfInBounds_toArray, List.set_cons_zero, List.set_cons_succ]
          refine wpAnyH_done (by kernel_rfl) ?_ _
          clear CM
          go_wp2
          go_ret
          exact ⟨by rw [HF.out]; rfl, HA.out.trans ((HU.out.trans (K1.out.mono HU.out.size)).mono HA.out.size)⟩
        | true =>
          have hok : kE.ok l[j] := by rw [HY.out]; exact (okEB_iff y).1 HP.out
          have HOK := Lib.hid hok
          clear hok
          by_cases hj0 : j = 0
          · have HE := Lib.hid (HM.out.succ hl HOK.out (fun h => absurd h (by omega)))
            have hjn : ¬ (0 < j) := by omega
            clear hj0
            go_wp2_with fail
            refine wp_region_held_drew (S := fun w' => w'.cell? ⟨w.heap.size, 2, none⟩ = some (.func (.func 62) #[] #[]) ∧ w'.cell? ⟨wr.heap.size, 0, none⟩ = some (.string y.name) ∧ w'.cell? ⟨wr.heap.size, 1, none⟩ = some (.int .i64 y.num) ∧ w'.cell? ⟨w.heap.size, 3, none⟩ = some (.func (.func 63) #[] #[])) (by kernel_rfl) (HK.out _ HR1.out) (fun hHeld => ?_)
            refine take_oneH 17 (i := 0) (v := .pointer (some ⟨w.heap.size, 2, none⟩)) rfl rfl (by kernel_rfl) (by kernel_rfl) (by kernel_rfl) (fun _ _ _ h => h) (Or.inl ⟨by kernel_rfl, fun w hSw => by (go_simp)⟩) (by assumption) ?_
            simp only [Act.put, List.setIfInBounds_toArray, List.set_cons_zero, List.set_cons_succ]
            refine take_oneH 18 (i := 1) (v := .func (.func 62) #[] #[]) rfl rfl (by kernel_rfl) (by kernel_rfl) (by kernel_rfl) (fun _ _ _ h => h) (Or.inl ⟨by kernel_rfl, fun w hSw => by (go_simp)⟩) (by assumption) ?_
            simp only [Act.put, List.setIfInBounds_toArray, List.set_cons_zero, List.set_cons_succ]
            refine take_oneH 19 (i := 2) (v := .agg #[.string y.name, .int .i64 y.num]) rfl rfl (by kernel_rfl) (by kernel_rfl) (by kernel_rfl) (fun _ _ _ h => h) (Or.inl ⟨by kernel_rfl, fun w hSw => by (go_simp)⟩) (by assumption) ?_
            simp only [Act.put, List.setIfInBounds_toArray, List.set_cons_zero, List.set_cons_succ]
            refine wpAnyH_ready (rs := [3]) (by kernel_rfl) (by simp) ?_
            refine AllReadyH.cons rfl (fun K hK => ?_) (AllReadyH.nil)
            go_simp
            go_at_call 62
            refine (CM _).mono ?_
            rintro e v1 ⟨rfl, hB1⟩
            have K1 := Lib.hid hB1
            clear hB1
            go_wp2_with fail
            refine hK.out _ _ (HK.out _ K1.out) (fun hHeld => ?_)
            clear hK K
            try simp only [Act.put, List.setIfInBounds_toArray, List.set_cons_zero, List.set_cons_succ]
            refine take_oneH 21 (i := 4) (v := .bool false) rfl rfl (by kernel_rfl) (by kernel_rfl) (by kernel_rfl) (fun _ _ _ h => h) (Or.inl ⟨by kernel_rfl, fun w hSw => by (go_simp)⟩) (by assumption) ?_
            simp only [Act.put, List.setIfInBounds_toArray, List.set_cons_zero, List.set_cons_succ]
            refine take_oneH 22 (i := 5) (v := .bool false) rfl rfl (by kernel_rfl) (by kernel_rfl) (by kernel_rfl) (fun _ _ _ h => h) (Or.inl ⟨by kernel_rfl, fun w hSw => by (go_simp)⟩) (by assumption) ?_
            simp only [Act.put, List.setIfInBounds_toArray, List.set_cons_zero, List.set_cons_succ]
            refine take_oneH 23 (i := 6) (v := .int .i64 ((j : Nat) : Int)) rfl rfl (by kernel_rfl) (by kernel_rfl) (by kernel_rfl) (fun _ _ _ h => h) (Or.inl ⟨by kernel_rfl, fun w hSw => by (go_simp)⟩) (by assumption) ?_
            simp only [Act.put, List.setIfInBounds_toArray, List.set_cons_zero, List.set_cons_succ]
            refine take_oneH 24 (i := 7) (v := .bool false) rfl rfl (by kernel_rfl) (by kernel_rfl) (by kernel_rfl) (fun _ _ _ h => h) (Or.inl ⟨by kernel_rfl, fun w hSw => by (go_simp)⟩) (by assumption) ?_
            simp only [Act.put, List.setIfInBounds_toArray, List.set_cons_zero, List.set_cons_succ]
            refine take_oneH 25 (i := 8) (v := .bool false) rfl rfl (by kernel_rfl) (by kernel_rfl) (by kernel_rfl) (fun _ _ _ h => h) (Or.inl ⟨by kernel_rfl, fun w hSw => by (go_simp)⟩) (by assumption) ?_
            simp only [Act.put, List.setIfInBounds_toArray, List.set_cons_zero, List.set_cons_succ]
            refine take_oneH 26 (i := 9) (v := undef) rfl rfl (by kernel_rfl) (by kernel_rfl) (by kernel_rfl) (fun _ _ _ h => h) (Or.inr ⟨by kernel_rfl, rfl⟩) (by assumption) ?_
            simp only [Act.put, List.setIfInBounds_toArray, List.set_cons_zero, List.set_cons_succ]
            refine take_oneH 27 (i := 10) (v := undef) rfl rfl (by kernel_rfl) (by kernel_rfl) (by kernel_rfl) (fun _ _ _ h => h) (Or.inr ⟨by kernel_rfl, rfl⟩) (by assumption) ?_
            simp only [Act.put, List.setIfInBounds_toArray, List.set_cons_zero, List.set_cons_succ]
            refine take_oneH 28 (i := 11) (v := undef) rfl rfl (by kernel_rfl) (by kernel_rfl) (by kernel_rfl) (fun _ _ _ h => h) (Or.inr ⟨by kernel_rfl, rfl⟩) (by assumption) ?_
            simp only [Act.put, List.setIfInBounds_toArray, List.set_cons_zero, List.set_cons_succ]
            refine take_oneH 29 (i := 12) (v := undef) rfl rfl (by kernel_rfl) (by kernel_rfl) (by kernel_rfl) (fun _ _ _ h => h) (Or.inr ⟨by kernel_rfl, rfl⟩) (by assumption) ?_
            simp only [Act.put, List.setIfInBounds_toArray, List.set_cons_zero, List.set_cons_succ]
            refine take_oneH 30 (i := 13) (v := undef) rfl rfl (by kernel_rfl) (by kernel_rfl) (by kernel_rfl) (fun _ _ _ h => h) (Or.inr ⟨by kernel_rfl, rfl⟩) (by assumption) ?_
            simp only [Act.put, List.setIfInBounds_toArray, List.set_cons_zero, List.set_cons_succ]
            refine take_oneH 31 (i := 14) (v := undef) rfl rfl (by kernel_rfl) (by kernel_rfl) (by kernel_rfl) (fun _ _ _ h => h) (Or.inr ⟨by kernel_rfl, rfl⟩) (by assumption) ?_
            simp only [Act.put, List.setIfInBounds_toArray, List.set_cons_zero, List.set_cons_succ]
            refine take_oneH 32 (i := 15) (v := undef) rfl rfl (by kernel_rfl) (by kernel_rfl) (by kernel_rfl) (fun _ _ _ h => h) (Or.inr ⟨by kernel_rfl, rfl⟩) (by assumption) ?_
            simp only [Act.put, List.setIfInBounds_toArray, List.set_cons_zero, List.set_cons_succ]
            refine take_oneH 33 (i := 16) (v := undef) rfl rfl (by kernel_rfl) (by kernel_rfl) (by kernel_rfl) (fun _ _ _ h => h) (Or.inr ⟨by kernel_rfl, rfl⟩) (by assumption) ?_
            simp only [Act.put, List.setIfInBounds_toArray, List.set_cons_zero, List.set_cons_succ]
            refine take_oneH 34 (i := 17) (v := undef) rfl rfl (by kernel_rfl) (by kernel_rfl) (by kernel_rfl) (fun _ _ _ h => h) (Or.inr ⟨by kernel_rfl, rfl⟩) (by assumption) ?_
            simp only [Act.put, List.setIfInBounds_toArray, List.set_cons_zero, List.set_cons_succ]
            refine take_oneH 35 (i := 18) (v := undef) rfl rfl (by kernel_rfl) (by kernel_rfl) (by kernel_rfl) (fun _ _ _ h => h) (Or.inr ⟨by kernel_rfl, rfl⟩) (by assumption) ?_
            simp only [Act.put, List.setIfInBounds_toArray, List.set_cons_zero, List.set_cons_succ]
            refine take_oneH 36 (i := 19) (v := .bool false) rfl rfl (by kernel_rfl) (by kernel_rfl) (by kernel_rfl) (fun _ _ _ h => h) (Or.inl ⟨by kernel_rfl, fun w hSw => by (go_simp)⟩) (by assumption) ?_
            simp only [Act.put, List.setIfInBounds_toArray, List.set_cons_zero, List.set_cons_succ]
            refine take_oneH 37 (i := 20) (v := .bool false) rfl rfl (by kernel_rfl) (by kernel_rfl) (by kernel_rfl) (fun _ _ _ h => h) (Or.inl ⟨by kernel_rfl, fun w hSw => by (go_simp)⟩) (by assumption) ?_
            simp only [Act.put, List.setIfInBounds_toArray, List.set_cons_zero, List.set_cons_succ]
            refine wpAnyH_done (by kernel_rfl) ?_ _
            clear CM
            go_wp2
            go_roundw
            case rel => exact ⟨j + 1, hlt, by go_num, HE.out, HB.out.trans ((HU.out.trans (K1.out.mono HU.out.size)).mono HB.out.size)⟩
            case measure => simp [intOf]; omega
          · have hji1 : (0 : Int) < (j : Int) := by omega
            have hj1 : j - 1 < l.length := by omega
            have ej : (j : Int) - 1 = ((j - 1 : Nat) : Int) := by omega
            have hjn : 0 < j := by omega
            have ew : IntKind.i64.wrap ((j - 1 : Nat) : Int) = ((j - 1 : Nat) : Int) := wrap64 _ (by omega) (by omega)
            have ej0 : (0 : Int) ≤ ((j - 1 : Nat) : Int) := by omega
            have ejN : ((j - 1 : Nat) : Int) < (N : Int) := by omega
            obtain ⟨z, hz⟩ : ∃ z, l[j - 1] = z := ⟨_, rfl⟩
            have HZ := Lib.hid hz
            have HKA := Lib.hid (show ∀ W, Below u1.drew.heap.size u1.drew W → (W.cell? ⟨w.heap.size, 2, none⟩ = some (.func (.func 62) #[] #[]) ∧ W.cell? ⟨wr.heap.size, 0, none⟩ = some (.string y.name) ∧ W.cell? ⟨wr.heap.size, 1, none⟩ = some (.int .i64 y.num) ∧ W.cell? ⟨w.heap.size, 3, none⟩ = some (.func (.func 63) #[] #[])) ∧ (W.cell? ⟨b, off + (j - 1) * 2, none⟩ = some (.string z.name) ∧ W.cell? ⟨b, off + (j - 1) * 2 + 1, none⟩ = some (.int .i64 z.num)) from fun W hW => by
              have h := HCL.out W (HU.out.trans (hW.mono HU.out.size)) (j - 1) hj1
              rw [HZ.out] at h
              exact ⟨HK.out W hW, h⟩)
            clear hz
            have CL := fun w => entL_any z y w
            unfold entV at CL
            obtain ⟨q, hq⟩ : ∃ q, Op.bytesLess z.name.toList y.name.toList = q := ⟨_, rfl⟩
            rw [hq] at CL
            have HQ := Lib.hid hq
            clear hq
            cases q with
            | false =>
              have HF := Lib.hid (show R = false by rw [← HR.out]; exact mayB_no (not_may_lt hl (by omega) (by rw [HY.out, HZ.out]; exact fun e => absurd (HQ.out.symm.trans e) (by decide))))
              go_wp2_with fail
              refine wp_region_held_drew (S := fun w' => (w'.cell? ⟨w.heap.size, 2, none⟩ = some (.func (.func 62) #[] #[]) ∧ w'.cell? ⟨wr.heap.size, 0, none⟩ = some (.string y.name) ∧ w'.cell? ⟨wr.heap.size, 1, none⟩ = some (.int .i64 y.num) ∧ w'.cell? ⟨w.heap.size, 3, none⟩ = some (.func (.func 63) #[] #[])) ∧ (w'.cell? ⟨b, off + (j - 1) * 2, none⟩ = some (.string z.name) ∧ w'.cell? ⟨b, off + (j - 1) * 2 + 1, none⟩ = some (.int .i64 z.num))) (by kernel_rfl) (HKA.out _ HR1.out) (fun hHeld => ?_)
              refine take_oneH 17 (i := 0) (v := .pointer (some ⟨w.heap.size, 2, none⟩)) rfl rfl (by kernel_rfl) (by kernel_rfl) (by kernel_rfl) (fun _ _ _ h => h) (Or.inl ⟨by kernel_rfl, fun w hSw => by (go_simp)⟩) (by assumption) ?_
              simp only [Act.put, List.setIfInBounds_toArray, List.set_cons_zero, List.set_cons_succ]
              refine take_oneH 18 (i := 1) (v := .func (.func 62) #[] #[]) rfl rfl (by kernel_rfl) (by kernel_rfl) (by kernel_rfl) (fun _ _ _ h => h) (Or.inl ⟨by kernel_rfl, fun w hSw => by (go_simp)⟩) (by assumption) ?_
              simp only [Act.put, List.setIfInBounds_toArray, List.set_cons_zero, List.set_cons_succ]
              refine take_oneH 19 (i := 2) (v := .agg #[.string y.name, .int .i64 y.num]) rfl rfl (by kernel_rfl) (by kernel_rfl) (by kernel_rfl) (fun _ _ _ h => h) (Or.inl ⟨by kernel_rfl, fun w hSw => by (go_simp)⟩) (by assumption) ?_
              simp only [Act.put, List.setIfInBounds_toArray, List.set_cons_zero, List.set_cons_succ]
              refine wpAnyH_ready (rs := [3]) (by kernel_rfl) (by simp) ?_
              refine AllReadyH.cons rfl (fun K hK => ?_) (AllReadyH.nil)
              go_simp
              go_at_call 62
              refine (CM _).mono ?_
              rintro e v1 ⟨rfl, hB1⟩
              have K1 := Lib.hid hB1
              clear hB1
              go_wp2_with fail
              refine hK.out _ _ (HKA.out _ K1.out) (fun hHeld => ?_)
              clear hK K
              try simp only [Act.put, List.setIfInBounds_toArray, List.set_cons_zero, List.set_cons_succ]
              refine take_oneH 21 (i := 4) (v := .bool false) rfl rfl (by kernel_rfl) (by kernel_rfl) (by kernel_rfl) (fun _ _ _ h => h) (Or.inl ⟨by kernel_rfl, fun w hSw => by (go_simp)⟩) (by assumption) ?_
              simp only [Act.put, List.setIfInBounds_toArray, List.set_cons_zero, List.set_cons_succ]
              refine take_oneH 22 (i := 5) (v := .bool false) rfl rfl (by kernel_rfl) (by kernel_rfl) (by kernel_rfl) (fun _ _ _ h => h) (Or.inl ⟨by kernel_rfl, fun w hSw => by (go_simp)⟩) (by assumption) ?_
              simp only [Act.put, List.setIfInBounds_toArray, List.set_cons_zero, List.set_cons_succ]
              refine take_oneH 23 (i := 6) (v := .int .i64 ((j : Nat) : Int)) rfl rfl (by kernel_rfl) (by kernel_rfl) (by kernel_rfl) (fun _ _ _ h => h) (Or.inl ⟨by kernel_rfl, fun w hSw => by (go_simp)⟩) (by assumption) ?_
              simp only [Act.put, List.setIfInBounds_toArray, List.set_cons_zero, List.set_cons_succ]
              refine take_oneH 24 (i := 7) (v := .bool true) rfl rfl (by kernel_rfl) (by kernel_rfl) (by kernel_rfl) (fun _ _ _ h => h) (Or.inl ⟨by kernel_rfl, fun w hSw => by (go_simp)⟩) (by assumption) ?_
              simp only [Act.put, List.setIfInBounds_toArray, List.set_cons_zero, List.set_cons_succ]
              refine take_oneH 25 (i := 8) (v := .bool true) rfl rfl (by kernel_rfl) (by kernel_rfl) (by kernel_rfl) (fun _ _ _ h => h) (Or.inl ⟨by kernel_rfl, fun w hSw => by (go_simp)⟩) (by assumption) ?_
              simp only [Act.put, List.setIfInBounds_toArray, List.set_cons_zero, List.set_cons_succ]
              refine take_oneH 26 (i := 9) (v := .pointer (some ⟨w.heap.size, 3, none⟩)) rfl rfl (by kernel_rfl) (by kernel_rfl) (by kernel_rfl) (fun _ _ _ h => h) (Or.inl ⟨by kernel_rfl, fun w hSw => by (go_simp)⟩) (by assumption) ?_
              simp only [Act.put, List.setIfInBounds_toArray, List.set_cons_zero, List.set_cons_succ]
              refine take_oneH 27 (i := 10) (v := .func (.func 63) #[] #[]) rfl rfl (by kernel_rfl) (by kernel_rfl) (by kernel_rfl) (fun _ _ _ h => h) (Or.inl ⟨by kernel_rfl, fun w hSw => by (go_simp)⟩) (by assumption) ?_
              simp only [Act.put, List.setIfInBounds_toArray, List.set_cons_zero, List.set_cons_succ]
              refine take_oneH 28 (i := 11) (v := .slice (some ⟨b, off, none⟩) N cap) rfl rfl (by kernel_rfl) (by kernel_rfl) (by kernel_rfl) (fun _ _ _ h => h) (Or.inl ⟨by kernel_rfl, fun w hSw => by (go_simp)⟩) (by assumption) ?_
              simp only [Act.put, List.setIfInBounds_toArray, List.set_cons_zero, List.set_cons_succ]
              refine take_oneH 29 (i := 12) (v := .int .i64 ((j : Nat) : Int)) rfl rfl (by kernel_rfl) (by kernel_rfl) (by kernel_rfl) (fun _ _ _ h => h) (Or.inl ⟨by kernel_rfl, fun w hSw => by (go_simp)⟩) (by assumption) ?_
              simp only [Act.put, List.setIfInBounds_toArray, List.set_cons_zero, List.set_cons_succ]
              refine take_oneH 30 (i := 13) (v := .int .i64 ((j - 1 : Nat) : Int)) rfl rfl (by kernel_rfl) (by kernel_rfl) (by kernel_rfl) (fun _ _ _ h => h) (Or.inl ⟨by kernel_rfl, fun w hSw => by (go_simp)⟩) (by assumption) ?_
              simp only [Act.put, List.setIfInBounds_toArray, List.set_cons_zero, List.set_cons_succ]
              refine take_oneH 31 (i := 14) (v := .pointer (some ⟨b, off + (j - 1) * 2, none⟩)) rfl rfl (by kernel_rfl) (by kernel_rfl) (by kernel_rfl) (fun _ _ _ h => h) (Or.inl ⟨by kernel_rfl, fun w hSw => by (go_simp)⟩) (by assumption) ?_
              simp only [Act.put, List.setIfInBounds_toArray, List.set_cons_zero, List.set_cons_succ]
              refine take_oneH 32 (i := 15) (v := .agg #[.string z.name, .int .i64 z.num]) rfl rfl (by kernel_rfl) (by kernel_rfl) (by kernel_rfl) (fun _ _ _ h => h) (Or.inl ⟨by kernel_rfl, fun w hSw => by (go_simp)⟩) (by assumption) ?_
              simp only [Act.put, List.setIfInBounds_toArray, List.set_cons_zero, List.set_cons_succ]
              refine take_oneH 33 (i := 16) (v := .agg #[.string y.name, .int .i64 y.num]) rfl rfl (by kernel_rfl) (by kernel_rfl) (by kernel_rfl) (fun _ _ _ h => h) (Or.inl ⟨by kernel_rfl, fun w hSw => by (go_simp)⟩) (by assumption) ?_
              simp only [Act.put, List.setIfInBounds_toArray, List.set_cons_zero, List.set_cons_succ]
              refine wpAnyH_ready (rs := [17]) (by kernel_rfl) (by simp) ?_
              refine AllReadyH.cons rfl (fun K hK => ?_) (AllReadyH.nil)
              go_simp
              go_at_call 63
              refine (CL _).mono ?_
              rintro e v2 ⟨rfl, hB2⟩
              have K2 := Lib.hid (K1.out.trans (hB2.mono K1.out.size))
              clear hB2
              go_wp2_with fail
              refine hK.out _ _ (HKA.out _ K2.out) (fun hHeld => ?_)
              clear hK K
              try simp only [Act.put, List.setIfInBounds_toArray, List.set_cons_zero, List.set_cons_succ]
              refine take_oneH 35 (i := 18) (v := .bool true) rfl rfl (by kernel_rfl) (by kernel_rfl) (by kernel_rfl) (fun _ _ _ h => h) (Or.inl ⟨by kernel_rfl, fun w hSw => by (go_simp)⟩) (by assumption) ?_
              simp only [Act.put, List.setIfInBounds_toArray, List.set_cons_zero, List.set_cons_succ]
              refine take_oneH 36 (i := 19) (v := .bool true) rfl rfl (by kernel_rfl) (by kernel_rfl) (by kernel_rfl) (fun _ _ _ h => h) (Or.inl ⟨by kernel_rfl, fun w hSw => by (go_simp)⟩) (by assumption) ?_
              simp only [Act.put, List.setIfInBounds_toArray, List.set_cons_zero, List.set_cons_succ]
              refine take_oneH 37 (i := 20) (v := .bool true) rfl rfl (by kernel_rfl) (by kernel_rfl) (by kernel_rfl) (fun _ _ _ h => h) (Or.inl ⟨by kernel_rfl, fun w hSw => by (go_simp)⟩) (by assumption) ?_
              simp only [Act.put, List.setIfInBounds_toArray, List.set_cons_zero, List.set_cons_succ]
              refine wpAnyH_done (by kernel_rfl) ?_ _
              clear CM
              go_wp2
              go_ret
              exact ⟨by rw [HF.out]; rfl, HA.out.trans ((HU.out.trans (K2.out.mono HU.out.size)).mono HA.out.size)⟩
            | true =>
              have HE := Lib.hid (HM.out.succ hl HOK.out (fun _ => by rw [HY.out, HZ.out]; exact HQ.out))
              go_wp2_with fail
              refine wp_region_held_drew (S := fun w' => (w'.cell? ⟨w.heap.size, 2, none⟩ = some (.func (.func 62) #[] #[]) ∧ w'.cell? ⟨wr.heap.size, 0, none⟩ = some (.string y.name) ∧ w'.cell? ⟨wr.heap.size, 1, none⟩ = some (.int .i64 y.num) ∧ w'.cell? ⟨w.heap.size, 3, none⟩ = some (.func (.func 63) #[] #[])) ∧ (w'.cell? ⟨b, off + (j - 1) * 2, none⟩ = some (.string z.name) ∧ w'.cell? ⟨b, off + (j - 1) * 2 + 1, none⟩ = some (.int .i64 z.num))) (by kernel_rfl) (HKA.out _ HR1.out) (fun hHeld => ?_)
              refine take_oneH 17 (i := 0) (v := .pointer (some ⟨w.heap.size, 2, none⟩)) rfl rfl (by kernel_rfl) (by kernel_rfl) (by kernel_rfl) (fun _ _ _ h => h) (Or.inl ⟨by kernel_rfl, fun w hSw => by (go_simp)⟩) (by assumption) ?_
              simp only [Act.put, List.setIfInBounds_toArray, List.set_cons_zero, List.set_cons_succ]
              refine take_oneH 18 (i := 1) (v := .func (.func 62) #[] #[]) rfl rfl (by kernel_rfl) (by kernel_rfl) (by kernel_rfl) (fun _ _ _ h => h) (Or.inl ⟨by kernel_rfl, fun w hSw => by (go_simp)⟩) (by assumption) ?_
              simp only [Act.put, List.setIfInBounds_toArray, List.set_cons_zero, List.set_cons_succ]
              refine take_oneH 19 (i := 2) (v := .agg #[.string y.name, .int .i64 y.num]) rfl rfl (by kernel_rfl) (by kernel_rfl) (by kernel_rfl) (fun _ _ _ h => h) (Or.inl ⟨by kernel_rfl, fun w hSw => by (go_simp)⟩) (by assumption) ?_
              simp only [Act.put, List.setIfInBounds_toArray, List.set_cons_zero, List.set_cons_succ]
              refine wpAnyH_ready (rs := [3]) (by kernel_rfl) (by simp) ?_
              refine AllReadyH.cons rfl (fun K hK => ?_) (AllReadyH.nil)
              go_simp
              go_at_call 62
              refine (CM _).mono ?_
              rintro e v1 ⟨rfl, hB1⟩
              have K1 := Lib.hid hB1
              clear hB1
              go_wp2_with fail
              refine hK.out _ _ (HKA.out _ K1.out) (fun hHeld => ?_)
              clear hK K
              try simp only [Act.put, List.setIfInBounds_toArray, List.set_cons_zero, List.set_cons_succ]
              refine take_oneH 21 (i := 4) (v := .bool false) rfl rfl (by kernel_rfl) (by kernel_rfl) (by kernel_rfl) (fun _ _ _ h => h) (Or.inl ⟨by kernel_rfl, fun w hSw => by (go_simp)⟩) (by assumption) ?_
              simp only [Act.put, List.setIfInBounds_toArray, List.set_cons_zero, List.set_cons_succ]
              refine take_oneH 22 (i := 5) (v := .bool false) rfl rfl (by kernel_rfl) (by kernel_rfl) (by kernel_rfl) (fun _ _ _ h => h) (Or.inl ⟨by kernel_rfl, fun w hSw => by (go_simp)⟩) (by assumption) ?_
              simp only [Act.put, List.setIfInBounds_toArray, List.set_cons_zero, List.set_cons_succ]
              refine take_oneH 23 (i := 6) (v := .int .i64 ((j : Nat) : Int)) rfl rfl (by kernel_rfl) (by kernel_rfl) (by kernel_rfl) (fun _ _ _ h => h) (Or.inl ⟨by kernel_rfl, fun w hSw => by (go_simp)⟩) (by assumption) ?_
              simp only [Act.put, List.setIfInBounds_toArray, List.set_cons_zero, List.set_cons_succ]
              refine take_oneH 24 (i := 7) (v := .bool true) rfl rfl (by kernel_rfl) (by kernel_rfl) (by kernel_rfl) (fun _ _ _ h => h) (Or.inl ⟨by kernel_rfl, fun w hSw => by (go_simp)⟩) (by assumption) ?_
              simp only [Act.put, List.setIfInBounds_toArray, List.set_cons_zero, List.set_cons_succ]
              refine take_oneH 25 (i := 8) (v := .bool true) rfl rfl (by kernel_rfl) (by kernel_rfl) (by kernel_rfl) (fun _ _ _ h => h) (Or.inl ⟨by kernel_rfl, fun w hSw => by (go_simp)⟩) (by assumption) ?_
              simp only [Act.put, List.setIfInBounds_toArray, List.set_cons_zero, List.set_cons_succ]
              refine take_oneH 26 (i := 9) (v := .pointer (some ⟨w.heap.size, 3, none⟩)) rfl rfl (by kernel_rfl) (by kernel_rfl) (by kernel_rfl) (fun _ _ _ h => h) (Or.inl ⟨by kernel_rfl, fun w hSw => by (go_simp)⟩) (by assumption) ?_
              simp only [Act.put, List.setIfInBounds_toArray, List.set_cons_zero, List.set_cons_succ]
              refine take_oneH 27 (i := 10) (v := .func (.func 63) #[] #[]) rfl rfl (by kernel_rfl) (by kernel_rfl) (by kernel_rfl) (fun _ _ _ h => h) (Or.inl ⟨by kernel_rfl, fun w hSw => by (go_simp)⟩) (by assumption) ?_
              simp only [Act.put, List.setIfInBounds_toArray, List.set_cons_zero, List.set_cons_succ]
              refine take_oneH 28 (i := 11) (v := .slice (some ⟨b, off, none⟩) N cap) rfl rfl (by kernel_rfl) (by kernel_rfl) (by kernel_rfl) (fun _ _ _ h => h) (Or.inl ⟨by kernel_rfl, fun w hSw => by (go_simp)⟩) (by assumption) ?_
              simp only [Act.put, List.setIfInBounds_toArray, List.set_cons_zero, List.set_cons_succ]
              refine take_oneH 29 (i := 12) (v := .int .i64 ((j : Nat) : Int)) rfl rfl (by kernel_rfl) (by kernel_rfl) (by kernel_rfl) (fun _ _ _ h => h) (Or.inl ⟨by kernel_rfl, fun w hSw => by (go_simp)⟩) (by assumption) ?_
              simp only [Act.put, List.setIfInBounds_toArray, List.set_cons_zero, List.set_cons_succ]
              refine take_oneH 30 (i := 13) (v := .int .i64 ((j - 1 : Nat) : Int)) rfl rfl (by kernel_rfl) (by kernel_rfl) (by kernel_rfl) (fun _ _ _ h => h) (Or.inl ⟨by kernel_rfl, fun w hSw => by (go_simp)⟩) (by assumption) ?_
              simp only [Act.put, List.setIfInBounds_toArray, List.set_cons_zero, List.set_cons_succ]
              refine take_oneH 31 (i := 14) (v := .pointer (some ⟨b, off + (j - 1) * 2, none⟩)) rfl rfl (by kernel_rfl) (by kernel_rfl) (by kernel_rfl) (fun _ _ _ h => h) (Or.inl ⟨by kernel_rfl, fun w hSw => by (go_simp)⟩) (by assumption) ?_
              simp only [Act.put, List.setIfInBounds_toArray, List.set_cons_zero, List.set_cons_succ]
              refine take_oneH 32 (i := 15) (v := .agg #[.string z.name, .int .i64 z.num]) rfl rfl (by kernel_rfl) (by kernel_rfl) (by kernel_rfl) (fun _ _ _ h => h) (Or.inl ⟨by kernel_rfl, fun w hSw => by (go_simp)⟩) (by assumption) ?_
              simp only [Act.put, List.setIfInBounds_toArray, List.set_cons_zero, List.set_cons_succ]
              refine take_oneH 33 (i := 16) (v := .agg #[.string y.name, .int .i64 y.num]) rfl rfl (by kernel_rfl) (by kernel_rfl) (by kernel_rfl) (fun _ _ _ h => h) (Or.inl ⟨by kernel_rfl, fun w hSw => by (go_simp)⟩) (by assumption) ?_
              simp only [Act.put, List.setIfInBounds_toArray, List.set_cons_zero, List.set_cons_succ]
              refine wpAnyH_ready (rs := [17]) (by kernel_rfl) (by simp) ?_
              refine AllReadyH.cons rfl (fun K hK => ?_) (AllReadyH.nil)
              go_simp
              go_at_call 63
              refine (CL _).mono ?_
              rintro e v2 ⟨rfl, hB2⟩
              have K2 := Lib.hid (K1.out.trans (hB2.mono K1.out.size))
              clear hB2
              go_wp2_with fail
              refine hK.out _ _ (HKA.out _ K2.out) (fun hHeld => ?_)
              clear hK K
              try simp only [Act.put, List.setIfInBounds_toArray, List.set_cons_zero, List.set_cons_succ]
              refine take_oneH 35 (i := 18) (v := .bool false) rfl rfl (by kernel_rfl) (by kernel_rfl) (by kernel_rfl) (fun _ _ _ h => h) (Or.inl ⟨by kernel_rfl, fun w hSw => by (go_simp)⟩) (by assumption) ?_
              simp only [Act.put, List.setIfInBounds_toArray, List.set_cons_zero, List.set_cons_succ]
              refine take_oneH 36 (i := 19) (v := .bool false) rfl rfl (by kernel_rfl) (by kernel_rfl) (by kernel_rfl) (fun _ _ _ h => h) (Or.inl ⟨by kernel_rfl, fun w hSw => by (go_simp)⟩) (by assumption) ?_
              simp only [Act.put, List.setIfInBounds_toArray, List.set_cons_zero, List.set_cons_succ]
              refine take_oneH 37 (i := 20) (v := .bool false) rfl rfl (by kernel_rfl) (by kernel_rfl) (by kernel_rfl) (fun _ _ _ h => h) (Or.inl ⟨by kernel_rfl, fun w hSw => by (go_simp)⟩) (by assumption) ?_
              simp only [Act.put, List.setIfInBounds_toArray, List.set_cons_zero, List.set_cons_succ]
              refine wpAnyH_done (by kernel_rfl) ?_ _
              clear CM
              go_wp2
              go_roundw
              case rel => exact ⟨j + 1, hlt, by go_num, HE.out, HB.out.trans ((HU.out.trans (K2.out.mono HU.out.size)).mono HB.out.size)⟩
              case measure => simp [intOf]; omega
      · obtain rfl : j = N := by omega
        have HF := Lib.hid (show R = true by rw [← HR.out]; exact mayB_yes ⟨by rw [HN.out]; omega, by rw [HN.out]; exact HM.out⟩)
        go_wp2
        go_ret
        exact ⟨by rw [HF.out]; rfl, HB0.out.trans (HB.out.mono HB0.out.size)⟩
/-- what package tables knows of snaps -/
def tblSnp : Value := .agg #[.func (.func 29) #[] #[], .func (.func 31) #[] #[], .func (.func 35) #[] #[], .func (.func 38) #[] #[]]
def tblOSnp : Obj := .cells #[.func (.func 29) #[] #[], .func (.func 31) #[] #[], .func (.func 35) #[] #[], .func (.func 38) #[] #[]] 41 (0, 0)
theorem snpT_any (w : World) : Calls Tryz.prog 11 #[] w fun e w' => e = .returned tblSnp ∧ Below w.heap.size w w' := by
  unfold tblSnp
  obtain ⟨u0, hu0⟩ : ∃ u, w.alloc (.cells #[.nilFunc, .nilFunc, .nilFunc, .nilFunc] 41) = u := ⟨_, rfl⟩
  have hx : u0.heap[w.heap.size]? = some (.cells #[.nilFunc, .nilFunc, .nilFunc, .nilFunc] 41 (0, 0)) := by rw [← hu0]; exact heap_alloc_new w _
  have c0 : u0.cell? ⟨w.heap.size, 0, none⟩ = some .nilFunc := by simp [World.cell?, hx]
  have f0 : u0.frozen? ⟨w.heap.size, 0, none⟩ = false := by simp [World.frozen?, hx]
  have c1 : u0.cell? ⟨w.heap.size, 1, none⟩ = some .nilFunc := by simp [World.cell?, hx]
  have f1 : u0.frozen? ⟨w.heap.size, 1, none⟩ = false := by simp [World.frozen?, hx]
  have c2 : u0.cell? ⟨w.heap.size, 2, none⟩ = some .nilFunc := by simp [World.cell?, hx]
  have f2 : u0.frozen? ⟨w.heap.size, 2, none⟩ = false := by simp [World.frozen?, hx]
  have c3 : u0.cell? ⟨w.heap.size, 3, none⟩ = some .nilFunc := by simp [World.cell?, hx]
  have f3 : u0.frozen? ⟨w.heap.size, 3, none⟩ = false := by simp [World.frozen?, hx]
  have hB : Below w.heap.size w u0 := by rw [← hu0]; exact (Below.refl _ w).alloc (Nat.le_refl _) _
  obtain ⟨u1, hu1⟩ : ∃ u, ((((u0.setCell ⟨w.heap.size, 0, none⟩ (.func (.func 29) #[] #[])).setCell ⟨w.heap.size, 1, none⟩ (.func (.func 31) #[] #[])).setCell ⟨w.heap.size, 2, none⟩ (.func (.func 35) #[] #[])).setCell ⟨w.heap.size, 3, none⟩ (.func (.func 38) #[] #[])) = u := ⟨_, rfl⟩
  have hy : u1.heap[w.heap.size]? = some (.cells #[.func (.func 29) #[] #[], .func (.func 31) #[] #[], .func (.func 35) #[] #[], .func (.func 38) #[] #[]] 41 (0, 0)) := by rw [← hu1]; exact (heap_set (heap_set (heap_set (heap_set hx (i := 0) (.func (.func 29) #[] #[])) (i := 1) (.func (.func 31) #[] #[])) (i := 2) (.func (.func 35) #[] #[])) (i := 3) (.func (.func 38) #[] #[]))
  have HB := Lib.hid (show Below w.heap.size w u1 by rw [← hu1]; exact ((((hB.setCell (p := ⟨w.heap.size, 0, none⟩) (Nat.le_refl _) (.func (.func 29) #[] #[])).setCell (p := ⟨w.heap.size, 1, none⟩) (Nat.le_refl _) (.func (.func 31) #[] #[])).setCell (p := ⟨w.heap.size, 2, none⟩) (Nat.le_refl _) (.func (.func 35) #[] #[])).setCell (p := ⟨w.heap.size, 3, none⟩) (Nat.le_refl _) (.func (.func 38) #[] #[])))
  have g0 : u1.cell? ⟨w.heap.size, 0, none⟩ = some (.func (.func 29) #[] #[]) := by simp [World.cell?, hy]
  have g1 : u1.cell? ⟨w.heap.size, 1, none⟩ = some (.func (.func 31) #[] #[]) := by simp [World.cell?, hy]
  have g2 : u1.cell? ⟨w.heap.size, 2, none⟩ = some (.func (.func 35) #[] #[]) := by simp [World.cell?, hy]
  have g3 : u1.cell? ⟨w.heap.size, 3, none⟩ = some (.func (.func 38) #[] #[]) := by simp [World.cell?, hy]
  clear hx hy hB
  go_enter Tryz.func11, Tryz.ntmps11
  go_wp2
  refine bodyPost_ret ?_ rfl ⟨rfl, HB.out⟩
  rw [results_cell_one rfl]
  go_simp
  try rfl
theorem snp_load {W : World} {b off : Nat} {l : List Snp} (h : ∀ j (_ : j < l.length) (i : Nat) (_ : i < 5), W.cell? ⟨b, off + j * 5 + i, none⟩ = (snpC l[j])[i]?) (j : Nat) (hj : j < l.length) :
    W.cell? ⟨b, off + j * 5, none⟩ = some (.string l[j].name) ∧ W.cell? ⟨b, off + j * 5 + 1, none⟩ = some (.int .i64 l[j].id) ∧ W.cell? ⟨b, off + j * 5 + 2, none⟩ = some (.int .i64 l[j].plane) ∧ W.cell? ⟨b, off + j * 5 + 3, none⟩ = some (.int .i64 l[j].root) ∧ W.cell? ⟨b, off + j * 5 + 4, none⟩ = some (.int .i64 l[j].size) := by
  refine ⟨h j hj 0 (by omega), h j hj 1 (by omega), h j hj 2 (by omega), h j hj 3 (by omega), h j hj 4 (by omega)⟩
set_option maxRecDepth 100000 in
set_option maxHeartbeats 4000000 in
theorem snpMay_any (v : Value) (l : List Snp) (hn : l.length ≤ 9223372036854775807) (hs : ∀ x ∈ l, x.name.size ≤ 140737488355328) (w : World) (h : LstAt snpC 5 w v l) :
    Calls Tryz.prog 26 #[tblSnp, v] w fun e w' => e = .returned (.bool (mayB kS l)) ∧ Below w.heap.size w w' := by
  obtain ⟨R, hR⟩ : ∃ R, mayB kS l = R := ⟨_, rfl⟩
  rw [hR]
  have HR := Lib.hid hR
  clear hR
  obtain ⟨a, cap, rfl, hc⟩ := h
  obtain ⟨N, hN⟩ : ∃ N, l.length = N := ⟨_, rfl⟩
  rw [hN] at hn ⊢
  obtain ⟨w0, hw0⟩ : ∃ w0, w.alloc tblOSnp = w0 := ⟨_, rfl⟩
  have HB0 := Lib.hid (show Below w.heap.size w w0 by rw [← hw0]; exact (Below.refl _ w).alloc (Nat.le_refl _) _)
  have HO := Lib.hid (show w0.heap[w.heap.size]? = some tblOSnp by rw [← hw0]; exact heap_alloc_new w _)
  unfold tblOSnp at hw0
  unfold tblSnp
  have HC := Lib.hid hc
  have HN := Lib.hid hN
  have HS := Lib.hid hs
  clear hc hN hs
  by_cases h4 : 4096 < N
  · have h4i : (4096 : Int) < (N : Int) := by omega
    have HF := Lib.hid (show R = false by rw [← HR.out]; exact mayB_no (not_may_long (by rw [HN.out]; exact h4)))
    clear h4
    go_enter Tryz.func26, Tryz.ntmps26
    go_wp2
    go_ret
    exact ⟨by rw [HF.out]; rfl, HB0.out⟩
  · have h4i : (N : Int) ≤ 4096 := by omega
    clear h4
    go_enter Tryz.func26, Tryz.ntmps26
    go_wp2_with fail
    go_loopw [12] (fun i wr => ∃ j : Nat, j ≤ N ∧ i = .int .i64 j ∧ MayTo kS l j ∧ Below w0.heap.size w0 wr) (fun i _ => N - (intOf i).toNat)
    case atStart => exact ⟨0, Nat.zero_le _, rfl, MayTo.zero l, Below.refl _ _⟩
    case round =>
      obtain ⟨j, hj, rfl, hm, hB⟩ := hrel
      have HM := Lib.hid hm
      have HB := Lib.hid hB
      clear hm hB
      by_cases hlt : j < N
      · have hl : j < l.length := by rw [HN.out]; exact hlt
        have hji : (j : Int) < (N : Int) := by omega
        obtain ⟨b, off, rfl, hb, hcells⟩ := HC.out (by intro e; rw [e] at hl; simp at hl)
        have HA := Lib.hid (HB0.out.trans (HB.out.mono HB0.out.size))
        obtain ⟨wr', hwr⟩ : ∃ u, u = wr := ⟨_, rfl⟩
        have HCL := Lib.hid (fun (W : World) (hW : Below wr.heap.size wr W) => snp_load (W := W) (b := b) (off := off) (l := l) (fun j hj i hi => (World.cell?_of_block (w := w) ((HA.out.trans (hW.mono HA.out.size)).block b hb)).trans (hcells j hj i hi)))
        clear hcells hwr wr'
        obtain ⟨y, hy⟩ : ∃ y, l[j] = y := ⟨_, rfl⟩
        obtain ⟨c0, c1, c2, c3, c4⟩ := HCL.out wr (Below.refl _ wr) j hl
        rw [hy] at c0 c1 c2 c3 c4
        have HY := Lib.hid hy
        have hys : y.name.size ≤ 140737488355328 := by rw [← hy]; exact HS.out _ (List.getElem_mem hl)
        clear hy
        obtain ⟨u0, hu0⟩ : ∃ u, wr.alloc (.cells #[.string ⟨#[]⟩, .int .i64 0, .int .i64 0, .int .i64 0, .int .i64 0] 35) = u := ⟨_, rfl⟩
        have hx0 : u0.heap[wr.heap.size]? = some (.cells #[.string ⟨#[]⟩, .int .i64 0, .int .i64 0, .int .i64 0, .int .i64 0] 35 (0, 0)) := by rw [← hu0]; exact heap_alloc_new wr _
        have z0 : u0.cell? ⟨wr.heap.size, 0, none⟩ = some (.string ⟨#[]⟩) := by simp [World.cell?, hx0]
        have z1 : u0.cell? ⟨wr.heap.size, 1, none⟩ = some (.int .i64 0) := by simp [World.cell?, hx0]
        have z2 : u0.cell? ⟨wr.heap.size, 2, none⟩ = some (.int .i64 0) := by simp [World.cell?, hx0]
        have z3 : u0.cell? ⟨wr.heap.size, 3, none⟩ = some (.int .i64 0) := by simp [World.cell?, hx0]
        have z4 : u0.cell? ⟨wr.heap.size, 4, none⟩ = some (.int .i64 0) := by simp [World.cell?, hx0]
        have f0 : u0.frozen? ⟨wr.heap.size, 0, none⟩ = false := by simp [World.frozen?, hx0]
        have f1 : u0.frozen? ⟨wr.heap.size, 1, none⟩ = false := by simp [World.frozen?, hx0]
        have f2 : u0.frozen? ⟨wr.heap.size, 2, none⟩ = false := by simp [World.frozen?, hx0]
        have f3 : u0.frozen? ⟨wr.heap.size, 3, none⟩ = false := by simp [World.frozen?, hx0]
        have f4 : u0.frozen? ⟨wr.heap.size, 4, none⟩ = false := by simp [World.frozen?, hx0]
        have hu : Below wr.heap.size wr u0 := by rw [← hu0]; exact (Below.refl _ wr).alloc (Nat.le_refl _) _
        obtain ⟨u1, hu1⟩ : ∃ u, (((((u0.setCell ⟨wr.heap.size, 0, none⟩ (.string y.name)).setCell ⟨wr.heap.size, 1, none⟩ (.int .i64 y.id)).setCell ⟨wr.heap.size, 2, none⟩ (.int .i64 y.plane)).setCell ⟨wr.heap.size, 3, none⟩ (.int .i64 y.root)).setCell ⟨wr.heap.size, 4, none⟩ (.int .i64 y.size)) = u := ⟨_, rfl⟩
        have HX := Lib.hid (show u1.heap[wr.heap.size]? = some (.cells #[.string y.name, .int .i64 y.id, .int .i64 y.plane, .int .i64 y.root, .int .i64 y.size] 35 (0, 0)) by rw [← hu1]; exact (heap_set (heap_set (heap_set (heap_set (heap_set hx0 (i := 0) (.string y.name)) (i := 1) (.int .i64 y.id)) (i := 2) (.int .i64 y.plane)) (i := 3) (.int .i64 y.root)) (i := 4) (.int .i64 y.size)))
        have HU := Lib.hid (show Below wr.heap.size wr u1.drew by rw [← hu1]; exact Below.drew (((((hu.setCell (p := ⟨wr.heap.size, 0, none⟩) (Nat.le_refl _) (.string y.name)).setCell (p := ⟨wr.heap.size, 1, none⟩) (Nat.le_refl _) (.int .i64 y.id)).setCell (p := ⟨wr.heap.size, 2, none⟩) (Nat.le_refl _) (.int .i64 y.plane)).setCell (p := ⟨wr.heap.size, 3, none⟩) (Nat.le_refl _) (.int .i64 y.root)).setCell (p := ⟨wr.heap.size, 4, none⟩) (Nat.le_refl _) (.int .i64 y.size)))
        clear hx0 hu
        have HK := Lib.hid (show ∀ W, Below u1.drew.heap.size u1.drew W → W.cell? ⟨w.heap.size, 2, none⟩ = some (.func (.func 35) #[] #[]) ∧ W.cell? ⟨wr.heap.size, 0, none⟩ = some (.string y.name) ∧ W.cell? ⟨wr.heap.size, 1, none⟩ = some (.int .i64 y.id) ∧ W.cell? ⟨wr.heap.size, 2, none⟩ = some (.int .i64 y.plane) ∧ W.cell? ⟨wr.heap.size, 3, none⟩ = some (.int .i64 y.root) ∧ W.cell? ⟨wr.heap.size, 4, none⟩ = some (.int .i64 y.size) ∧ W.cell? ⟨w.heap.size, 3, none⟩ = some (.func (.func 38) #[] #[]) from fun W hW => by
          have e := (hW.block _ (lt_of_heap HX.out)).trans HX.out
          have hl0 : w.heap.size < wr.heap.size := Nat.lt_of_lt_of_le (lt_of_heap HO.out) HB.out.size
          have e2 := (hW.block _ (Nat.lt_of_lt_of_le hl0 HU.out.size)).trans ((HU.out.block _ hl0).trans ((HB.out.block _ (lt_of_heap HO.out)).trans HO.out))
          exact ⟨by simp [World.cell?, e2, tblOSnp], by simp [World.cell?, e], by simp [World.cell?, e], by simp [World.cell?, e], by simp [World.cell?, e], by simp [World.cell?, e], by simp [World.cell?, e2, tblOSnp]⟩)
        have CM := fun w => snpM_any y hys w
        unfold snpV at CM
        have HR1 := Lib.hid (Below.refl u1.drew.heap.size u1.drew)
        obtain ⟨p, hp⟩ : ∃ p, okSB y = p := ⟨_, rfl⟩
        rw [hp] at CM
        have HP := Lib.hid hp
        clear hp hb hys
        cases p with
        | false =>
          have HF := Lib.hid (show R = false by rw [← HR.out]; exact mayB_no (not_may_ok hl (by rw [HY.out]; exact fun e => by have e2 := (okSB_iff y).2 e; rw [HP.out] at e2; cases e2)))
          go_wp2_with fail
          refine wp_region_held_drew (S := fun w' => w'.cell? ⟨w.heap.size, 2, none⟩ = some (.func (.func 35) #[] #[]) ∧ w'.cell? ⟨wr.heap.size, 0, none⟩ = some (.string y.name) ∧ w'.cell? ⟨wr.heap.size, 1, none⟩ = some (.int .i64 y.id) ∧ w'.cell? ⟨wr.heap.size, 2, none⟩ = some (.int .i64 y.plane) ∧ w'.cell? ⟨wr.heap.size, 3, none⟩ = some (.int .i64 y.root) ∧ w'.cell? ⟨wr.heap.size, 4, none⟩ = some (.int .i64 y.size) ∧ w'.cell? ⟨w.heap.size, 3, none⟩ = some (.func (.func 38) #[] #[])) (by kernel_rfl) (HK.out _ HR1.out) (fun hHeld => ?_)
          refine take_oneH 17 (i := 0) (v := .pointer (some ⟨w.heap.size, 2, none⟩)) rfl rfl (by kernel_rfl) (by kernel_rfl) (by kernel_rfl) (fun _ _ _ h => h) (Or.inl ⟨by kernel_rfl, fun w hSw => by (go_simp)⟩) (by assumption) ?_
          simp only [Act.put, List.setIfInBounds_toArray, List.set_cons_zero, List.set_cons_succ]
          refine take_oneH 18 (i := 1) (v := .func (.func 35) #[] #[]) rfl rfl (by kernel_rfl) (by kernel_rfl) (by kernel_rfl) (fun _ _ _ h => h) (Or.inl ⟨by kernel_rfl, fun w hSw => by (go_simp)⟩) (by assumption) ?_
          simp only [Act.put, List.setIfInBounds_toArray, List.set_cons_zero, List.set_cons_succ]
          refine take_oneH 19 (i := 2) (v := .agg #[.string y.name, .int .i64 y.id, .int .i64 y.plane, .int .i64 y.root, .int .i64 y.size]) rfl rfl (by kernel_rfl) (by kernel_rfl) (by kernel_rfl) (fun _ _ _ h => h) (Or.inl ⟨by kernel_rfl, fun w hSw => by (go_simp)⟩) (by assumption) ?_
          simp only [Act.put, List.setIfInBounds_toArray, List.set_cons_zero, List.set_cons_succ]
          refine wpAnyH_ready (rs := [3]) (by kernel_rfl) (by simp) ?_
          refine AllReadyH.cons rfl (fun K hK => ?_) (AllReadyH.nil)
          go_simp
          go_at_call 35
          refine (CM _).mono ?_
          rintro e v1 ⟨rfl, hB1⟩
          have K1 := Lib.hid hB1
          clear hB1
          go_wp2_with fail
          refine hK.out _ _ (HK.out _ K1.out) (fun hHeld => ?_)
          clear hK K
          try simp only [Act.put, List.setIfInBounds_toArray, List.set_cons_zero, List.set_cons_succ]
          refine take_oneH 21 (i := 4) (v := .bool true) rfl rfl (by kernel_rfl) (by kernel_rfl) (by kernel_rfl) (fun _ _ _ h => h) (Or.inl ⟨by kernel_rfl, fun w hSw => by (go_simp)⟩) (by assumption) ?_
          simp only [Act.put, List.setIfInBounds_toArray, List.set_cons_zero, List.set_cons_succ]
          refine take_oneH 22 (i := 5) (v := .bool true) rfl rfl (by kernel_rfl) (by kernel_rfl) (by kernel_rfl) (fun _ _ _ h => h) (Or.inl ⟨by kernel_rfl, fun w hSw => by (go_simp)⟩) (by assumption) ?_
          simp only [Act.put, List.setIfInBounds_toArray, List.set_cons_zero, List.set_cons_succ]
          refine take_oneH 23 (i := 6) (v := undef) rfl rfl (by kernel_rfl) (by kernel_rfl) (by kernel_rfl) (fun _ _ _ h => h) (Or.inr ⟨by kernel_rfl, rfl⟩) (by assumption) ?_
          simp only [Act.put, List.setIfInBounds_toArray, List.set_cons_zero, List.set_cons_succ]
          refine take_oneH 24 (i := 7) (v := undef) rfl rfl (by kernel_rfl) (by kernel_rfl) (by kernel_rfl) (fun _ _ _ h => h) (Or.inr ⟨by kernel_rfl, rfl⟩) (by assumption) ?_
          simp only [Act.put, List.setIfInBounds_toArray, List.set_cons_zero, List.set_cons_succ]
          refine take_oneH 25 (i := 8) (v := undef) rfl rfl (by kernel_rfl) (by kernel_rfl) (by kernel_rfl) (fun _ _ _ h => h) (Or.inr ⟨by kernel_rfl, rfl⟩) (by assumption) ?_
          simp only [Act.put, List.setIfInBounds_toArray, List.set_cons_zero, List.set_cons_succ]
          refine take_oneH 26 (i := 9) (v := undef) rfl rfl (by kernel_rfl) (by kernel_rfl) (by kernel_rfl) (fun _ _ _ h => h) (Or.inr ⟨by kernel_rfl, rfl⟩) (by assumption) ?_
          simp only [Act.put, List.setIfInBounds_toArray, List.set_cons_zero, List.set_cons_succ]
          refine take_oneH 27 (i := 10) (v := undef) rfl rfl (by kernel_rfl) (by kernel_rfl) (by kernel_rfl) (fun _ _ _ h => h) (Or.inr ⟨by kernel_rfl, rfl⟩) (by assumption) ?_
          simp only [Act.put, List.setIfInBounds_toArray, List.set_cons_zero, List.set_cons_succ]
          refine take_oneH 28 (i := 11) (v := undef) rfl rfl (by kernel_rfl) (by kernel_rfl) (by kernel_rfl) (fun _ _ _ h => h) (Or.inr ⟨by kernel_rfl, rfl⟩) (by assumption) ?_
          simp only [Act.put, List.setIfInBounds_toArray, List.set_cons_zero, List.set_cons_succ]
          refine take_oneH 29 (i := 12) (v := undef) rfl rfl (by kernel_rfl) (by kernel_rfl) (by kernel_rfl) (fun _ _ _ h => h) (Or.inr ⟨by kernel_rfl, rfl⟩) (by assumption) ?_
          simp only [Act.put, List.setIfInBounds_toArray, List.set_cons_zero, List.set_cons_succ]
          refine take_oneH 30 (i := 13) (v := undef) rfl rfl (by kernel_rfl) (by kernel_rfl) (by kernel_rfl) (fun _ _ _ h => h) (Or.inr ⟨by kernel_rfl, rfl⟩) (by assumption) ?_
          simp only [Act.put, List.setIfInBounds_toArray, List.set_cons_zero, List.set_cons_succ]
          refine take_oneH 31 (i := 14) (v := undef) rfl rfl (by kernel_rfl) (by kernel_rfl) (by kernel_rfl) (fun _ _ _ h => h) (Or.inr ⟨by kernel_rfl, rfl⟩) (by assumption) ?_
          simp only [Act.put, List.setIfInBounds_toArray, List.set_cons_zero, List.set_cons_succ]
          refine take_oneH 32 (i := 15) (v := undef) rfl rfl (by kernel_rfl) (by kernel_rfl) (by kernel_rfl) (fun _ _ _ h => h) (Or.inr ⟨by kernel_rfl, rfl⟩) (by assumption) ?_
          simp only [Act.put, List.setIfInBounds_toArray, List.set_cons_zero, List.set_cons_succ]
          refine take_oneH 33 (i := 16) (v := undef) rfl rfl (by kernel_rfl) (by kernel_rfl) (by kernel_rfl) (fun _ _ _ h => h) (Or.inr ⟨by kernel_rfl, rfl⟩) (by assumption) ?_
          simp only [Act.put, List.setIfInBounds_toArray, List.set_cons_zero, List.set_cons_succ]
          refine take_oneH 34 (i := 17) (v := undef) rfl rfl (by kernel_rfl) (by kernel_rfl) (by kernel_rfl) (fun _ _ _ h => h) (Or.inr ⟨by kernel_rfl, rfl⟩) (by assumption) ?_
          simp only [Act.put, List.setIfInBounds_toArray, List.set_cons_zero, List.set_cons_succ]
          refine take_oneH 35 (i := 18) (v := undef) rfl rfl (by kernel_rfl) (by kernel_rfl) (by kernel_rfl) (fun _ _ _ h => h) (Or.inr ⟨by kernel_rfl, rfl⟩) (by assumption) ?_
          simp only [Act.put, List.setIfInBounds_toArray, List.set_cons_zero, List.set_cons_succ]
          refine take_oneH 36 (i := 19) (v := undef) rfl rfl (by kernel_rfl) (by kernel_rfl) (by kernel_rfl) (fun _ _ _ h => h) (Or.inr ⟨by kernel_rfl, rfl⟩) (by assumption) ?_
          simp only [Act.put, List.setIfInBounds_toArray, List.set_cons_zero, List.set_cons_succ]
          refine take_oneH 37 (i := 20) (v := .bool true) rfl rfl (by kernel_rfl) (by kernel_rfl) (by kernel_rfl) (fun _ _ _ h => h) (Or.inl ⟨by kernel_rfl, fun w hSw => by (go_simp)⟩) (by assumption) ?_
          simp only [Act.put, List.setIfInBounds_toArray, List.set_cons_zero, List.set_cons_succ]
          refine wpAnyH_done (by kernel_rfl) ?_ _
          clear CM
          go_wp2
          go_ret
          exact ⟨by rw [HF.out]; rfl, HA.out.trans ((HU.out.trans (K1.out.mono HU.out.size)).mono HA.out.size)⟩
        | true =>
          have hok : kS.ok l[j] := by rw [HY.out]; exact (okSB_iff y).1 HP.out
          have HOK := Lib.hid hok
          clear hok
          by_cases hj0 : j = 0
          · have HE := Lib.hid (HM.out.succ hl HOK.out (fun h => absurd h (by omega)))
            have hjn : ¬ (0 < j) := by omega
            clear hj0
            go_wp2_with fail
            refine wp_region_held_drew (S := fun w' => w'.cell? ⟨w.heap.size, 2, none⟩ = some (.func (.func 35) #[] #[]) ∧ w'.cell? ⟨wr.heap.size, 0, none⟩ = some (.string y.name) ∧ w'.cell? ⟨wr.heap.size, 1, none⟩ = some (.int .i64 y.id) ∧ w'.cell? ⟨wr.heap.size, 2, none⟩ = some (.int .i64 y.plane) ∧ w'.cell? ⟨wr.heap.size, 3, none⟩ = some (.int .i64 y.root) ∧ w'.cell? ⟨wr.heap.size, 4, none⟩ = some (.int .i64 y.size) ∧ w'.cell? ⟨w.heap.size, 3, none⟩ = some (.func (.func 38) #[] #[])) (by kernel_rfl) (HK.out _ HR1.out) (fun hHeld => ?_)
            refine take_oneH 17 (i := 0) (v := .pointer (some ⟨w.heap.size, 2, none⟩)) rfl rfl (by kernel_rfl) (by kernel_rfl) (by kernel_rfl) (fun _ _ _ h => h) (Or.inl ⟨by kernel_rfl, fun w hSw => by (go_simp)⟩) (by assumption) ?_
            simp only [Act.put, List.setIfInBounds_toArray, List.set_cons_zero, List.set_cons_succ]
            refine take_oneH 18 (i := 1) (v := .func (.func 35) #[] #[]) rfl rfl (by kernel_rfl) (by kernel_rfl) (by kernel_rfl) (fun _ _ _ h => h) (Or.inl ⟨by kernel_rfl, fun w hSw => by (go_simp)⟩) (by assumption) ?_
            simp only [Act.put, List.setIfInBounds_toArray, List.set_cons_zero, List.set_cons_succ]
            refine take_oneH 19 (i := 2) (v := .agg #[.string y.name, .int .i64 y.id, .int .i64 y.plane, .int .i64 y.root, .int .i64 y.size]) rfl rfl (by kernel_rfl) (by kernel_rfl) (by kernel_rfl) (fun _ _ _ h => h) (Or.inl ⟨by kernel_rfl, fun w hSw => by (go_simp)⟩) (by assumption) ?_
            simp only [Act.put, List.setIfInBounds_toArray, List.set_cons_zero, List.set_cons_succ]
            refine wpAnyH_ready (rs := [3]) (by kernel_rfl) (by simp) ?_
            refine AllReadyH.cons rfl (fun K hK => ?_) (AllReadyH.nil)
            go_simp
            go_at_call 35
            refine (CM _).mono ?_
            rintro e v1 ⟨rfl, hB1⟩
            have K1 := Lib.hid hB1
            clear hB1
            go_wp2_with fail
            refine hK.out _ _ (HK.out _ K1.out) (fun hHeld => ?_)
            clear hK K
            try simp only [Act.put, List.setIfInBounds_toArray, List.set_cons_zero, List.set_cons_succ]
            refine take_oneH 21 (i := 4) (v := .bool false) rfl rfl (by kernel_rfl) (by kernel_rfl) (by kernel_rfl) (fun _ _ _ h => h) (Or.inl ⟨by kernel_rfl, fun w hSw => by (go_simp)⟩) (by assumption) ?_
            simp only [Act.put, List.setIfInBounds_toArray, List.set_cons_zero, List.set_cons_succ]
            refine take_oneH 22 (i := 5) (v := .bool false) rfl rfl (by kernel_rfl) (by kernel_rfl) (by kernel_rfl) (fun _ _ _ h => h) (Or.inl ⟨by kernel_rfl, fun w hSw => by (go_simp)⟩) (by assumption) ?_
            simp only [Act.put, List.setIfInBounds_toArray, List.set_cons_zero, List.set_cons_succ]
            refine take_oneH 23 (i := 6) (v := .int .i64 ((j : Nat) : Int)) rfl rfl (by kernel_rfl) (by kernel_rfl) (by kernel_rfl) (fun _ _ _ h => h) (Or.inl ⟨by kernel_rfl, fun w hSw => by (go_simp)⟩) (by assumption) ?_
            simp only [Act.put, List.setIfInBounds_toArray, List.set_cons_zero, List.set_cons_succ]
            refine take_oneH 24 (i := 7) (v := .bool false) rfl rfl (by kernel_rfl) (by kernel_rfl) (by kernel_rfl) (fun _ _ _ h => h) (Or.inl ⟨by kernel_rfl, fun w hSw => by (go_simp)⟩) (by assumption) ?_
            simp only [Act.put, List.setIfInBounds_toArray, List.set_cons_zero, List.set_cons_succ]
            refine take_oneH 25 (i := 8) (v := .bool false) rfl rfl (by kernel_rfl) (by kernel_rfl) (by kernel_rfl) (fun _ _ _ h => h) (Or.inl ⟨by kernel_rfl, fun w hSw => by (go_simp)⟩) (by assumption) ?_
            simp only [Act.put, List.setIfInBounds_toArray, List.set_cons_zero, List.set_cons_succ]
            refine take_oneH 26 (i := 9) (v := undef) rfl rfl (by kernel_rfl) (by kernel_rfl) (by kernel_rfl) (fun _ _ _ h => h) (Or.inr ⟨by kernel_rfl, rfl⟩) (by assumption) ?_
            simp only [Act.put, List.setIfInBounds_toArray, List.set_cons_zero, List.set_cons_succ]
            refine take_oneH 27 (i := 10) (v := undef) rfl rfl (by kernel_rfl) (by kernel_rfl) (by kernel_rfl) (fun _ _ _ h => h) (Or.inr ⟨by kernel_rfl, rfl⟩) (by assumption) ?_
            simp only [Act.put, List.setIfInBounds_toArray, List.set_cons_zero, List.set_cons_succ]
            refine take_oneH 28 (i := 11) (v := undef) rfl rfl (by kernel_rfl) (by kernel_rfl) (by kernel_rfl) (fun _ _ _ h => h) (Or.inr ⟨by kernel_rfl, rfl⟩) (by assumption) ?_
            simp only [Act.put, List.setIfInBounds_toArray, List.set_cons_zero, List.set_cons_succ]
            refine take_oneH 29 (i := 12) (v := undef) rfl rfl (by kernel_rfl) (by kernel_rfl) (by kernel_rfl) (fun _ _ _ h => h) (Or.inr ⟨by kernel_rfl, rfl⟩) (by assumption) ?_
            simp only [Act.put, List.setIfInBounds_toArray, List.set_cons_zero, List.set_cons_succ]
            refine take_oneH 30 (i := 13) (v := undef) rfl rfl (by kernel_rfl) (by kernel_rfl) (by kernel_rfl) (fun _ _ _ h => h) (Or.inr ⟨by kernel_rfl, rfl⟩) (by assumption) ?_
            simp only [Act.put, List.setIfInBounds_toArray, List.set_cons_zero, List.set_cons_succ]
            refine take_oneH 31 (i := 14) (v := undef) rfl rfl (by kernel_rfl) (by kernel_rfl) (by kernel_rfl) (fun _ _ _ h => h) (Or.inr ⟨by kernel_rfl, rfl⟩) (by assumption) ?_
            simp only [Act.put, List.setIfInBounds_toArray, List.set_cons_zero, List.set_cons_succ]
            refine take_oneH 32 (i := 15) (v := undef) rfl rfl (by kernel_rfl) (by kernel_rfl) (by kernel_rfl) (fun _ _ _ h => h) (Or.inr ⟨by kernel_rfl, rfl⟩) (by assumption) ?_
            simp only [Act.put, List.setIfInBounds_toArray, List.set_cons_zero, List.set_cons_succ]
            refine take_oneH 33 (i := 16) (v := undef) rfl rfl (by kernel_rfl) (by kernel_rfl) (by kernel_rfl) (fun _ _ _ h => h) (Or.inr ⟨by kernel_rfl, rfl⟩) (by assumption) ?_
            simp only [Act.put, List.setIfInBounds_toArray, List.set_cons_zero, List.set_cons_succ]
            refine take_oneH 34 (i := 17) (v := undef) rfl rfl (by kernel_rfl) (by kernel_rfl) (by kernel_rfl) (fun _ _ _ h => h) (Or.inr ⟨by kernel_rfl, rfl⟩) (by assumption) ?_
            simp only [Act.put, List.setIfInBounds_toArray, List.set_cons_zero, List.set_cons_succ]
            refine take_oneH 35 (i := 18) (v := undef) rfl rfl (by kernel_rfl) (by kernel_rfl) (by kernel_rfl) (fun _ _ _ h => h) (Or.inr ⟨by kernel_rfl, rfl⟩) (by assumption) ?_
            simp only [Act.put, List.setIfInBounds_toArray, List.set_cons_zero, List.set_cons_succ]
            refine take_oneH 36 (i := 19) (v := .bool false) rfl rfl (by kernel_rfl) (by kernel_rfl) (by kernel_rfl) (fun _ _ _ h => h) (Or.inl ⟨by kernel_rfl, fun w hSw => by (go_simp)⟩) (by assumption) ?_
            simp only [Act.put, List.setIfInBounds_toArray, List.set_cons_zero, List.set_cons_succ]
            refine take_oneH 37 (i := 20) (v := .bool false) rfl rfl (by kernel_rfl) (by kernel_rfl) (by kernel_rfl) (fun _ _ _ h => h) (Or.inl ⟨by kernel_rfl, fun w hSw => by (go_simp)⟩) (by assumption) ?_
            simp only [Act.put, List.setIfInBounds_toArray, List.set_cons_zero, List.set_cons_succ]
            refine wpAnyH_done (by kernel_rfl) ?_ _
            clear CM
            go_wp2
            go_roundw
            case rel => exact ⟨j + 1, hlt, by go_num, HE.out, HB.out.trans ((HU.out.trans (K1.out.mono HU.out.size)).mono HB.out.size)⟩
            case measure => simp [intOf]; omega
          · have hji1 : (0 : Int) < (j : Int) := by omega
            have hj1 : j - 1 < l.length := by omega
            have ej : (j : Int) - 1 = ((j - 1 : Nat) : Int) := by omega
            have hjn : 0 < j := by omega
            have ew : IntKind.i64.wrap ((j - 1 : Nat) : Int) = ((j - 1 : Nat) : Int) := wrap64 _ (by omega) (by omega)
            have ej0 : (0 : Int) ≤ ((j - 1 : Nat) : Int) := by omega
            have ejN : ((j - 1 : Nat) : Int) < (N : Int) := by omega
            obtain ⟨z, hz⟩ : ∃ z, l[j - 1] = z := ⟨_, rfl⟩
            have HZ := Lib.hid hz
            have HKA := Lib.hid (show ∀ W, Below u1.drew.heap.size u1.drew W → (W.cell? ⟨w.heap.size, 2, none⟩ = some (.func (.func 35) #[] #[]) ∧ W.cell? ⟨wr.heap.size, 0, none⟩ = some (.string y.name) ∧ W.cell? ⟨wr.heap.size, 1, none⟩ = some (.int .i64 y.id) ∧ W.cell? ⟨wr.heap.size, 2, none⟩ = some (.int .i64 y.plane) ∧ W.cell? ⟨wr.heap.size, 3, none⟩ = some (.int .i64 y.root) ∧ W.cell? ⟨wr.heap.size, 4, none⟩ = some (.int .i64 y.size) ∧ W.cell? ⟨w.heap.size, 3, none⟩ = some (.func (.func 38) #[] #[])) ∧ (W.cell? ⟨b, off + (j - 1) * 5, none⟩ = some (.string z.name) ∧ W.cell? ⟨b, off + (j - 1) * 5 + 1, none⟩ = some (.int .i64 z.id) ∧ W.cell? ⟨b, off + (j - 1) * 5 + 2, none⟩ = some (.int .i64 z.plane) ∧ W.cell? ⟨b, off + (j - 1) * 5 + 3, none⟩ = some (.int .i64 z.root) ∧ W.cell? ⟨b, off + (j - 1) * 5 + 4, none⟩ = some (.int .i64 z.size)) from fun W hW => by
              have h := HCL.out W (HU.out.trans (hW.mono HU.out.size)) (j - 1) hj1
              rw [HZ.out] at h
              exact ⟨HK.out W hW, h⟩)
            clear hz
            have CL := fun w => snpL_any z y w
            unfold snpV at CL
            obtain ⟨q, hq⟩ : ∃ q, decide (z.id < y.id) = q := ⟨_, rfl⟩
            rw [hq] at CL
            have HQ := Lib.hid hq
            clear hq
            cases q with
            | false =>
              have HF := Lib.hid (show R = false by rw [← HR.out]; exact mayB_no (not_may_lt hl (by omega) (by rw [HY.out, HZ.out]; exact of_decide_eq_false (p := (z.id < y.id)) HQ.out)))
              go_wp2_with fail
              refine wp_region_held_drew (S := fun w' => (w'.cell? ⟨w.heap.size, 2, none⟩ = some (.func (.func 35) #[] #[]) ∧ w'.cell? ⟨wr.heap.size, 0, none⟩ = some (.string y.name) ∧ w'.cell? ⟨wr.heap.size, 1, none⟩ = some (.int .i64 y.id) ∧ w'.cell? ⟨wr.heap.size, 2, none⟩ = some (.int .i64 y.plane) ∧ w'.cell? ⟨wr.heap.size, 3, none⟩ = some (.int .i64 y.root) ∧ w'.cell? ⟨wr.heap.size, 4, none⟩ = some (.int .i64 y.size) ∧ w'.cell? ⟨w.heap.size, 3, none⟩ = some (.func (.func 38) #[] #[])) ∧ (w'.cell? ⟨b, off + (j - 1) * 5, none⟩ = some (.string z.name) ∧ w'.cell? ⟨b, off + (j - 1) * 5 + 1, none⟩ = some (.int .i64 z.id) ∧ w'.cell? ⟨b, off + (j - 1) * 5 + 2, none⟩ = some (.int .i64 z.plane) ∧ w'.cell? ⟨b, off + (j - 1) * 5 + 3, none⟩ = some (.int .i64 z.root) ∧ w'.cell? ⟨b, off + (j - 1) * 5 + 4, none⟩ = some (.int .i64 z.size))) (by kernel_rfl) (HKA.out _ HR1.out) (fun hHeld => ?_)
              refine take_oneH 17 (i := 0) (v := .pointer (some ⟨w.heap.size, 2, none⟩)) rfl rfl (by kernel_rfl) (by kernel_rfl) (by kernel_rfl) (fun _ _ _ h => h) (Or.inl ⟨by kernel_rfl, fun w hSw => by (go_simp)⟩) (by assumption) ?_
              simp only [Act.put, List.setIfInBounds_toArray, List.set_cons_zero, List.set_cons_succ]
              refine take_oneH 18 (i := 1) (v := .func (.func 35) #[] #[]) rfl rfl (by kernel_rfl) (by kernel_rfl) (by kernel_rfl) (fun _ _ _ h => h) (Or.inl ⟨by kernel_rfl, fun w hSw => by (go_simp)⟩) (by assumption) ?_
              simp only [Act.put, List.setIfInBounds_toArray, List.set_cons_zero, List.set_cons_succ]
              refine take_oneH 19 (i := 2) (v := .agg #[.string y.name, .int .i64 y.id, .int .i64 y.plane, .int .i64 y.root, .int .i64 y.size]) rfl rfl (by kernel_rfl) (by kernel_rfl) (by kernel_rfl) (fun _ _ _ h => h) (Or.inl ⟨by kernel_rfl, fun w hSw => by (go_simp)⟩) (by assumption) ?_
              simp only [Act.put, List.setIfInBounds_toArray, List.set_cons_zero, List.set_cons_succ]
              refine wpAnyH_ready (rs := [3]) (by kernel_rfl) (by simp) ?_
              refine AllReadyH.cons rfl (fun K hK => ?_) (AllReadyH.nil)
              go_simp
              go_at_call 35
              refine (CM _).mono ?_
              rintro e v1 ⟨rfl, hB1⟩
              have K1 := Lib.hid hB1
              clear hB1
              go_wp2_with fail
              refine hK.out _ _ (HKA.out _ K1.out) (fun hHeld => ?_)
              clear hK K
              try simp only [Act.put, List.setIfInBounds_toArray, List.set_cons_zero, List.set_cons_succ]
              refine take_oneH 21 (i := 4) (v := .bool false) rfl rfl (by kernel_rfl) (by kernel_rfl) (by kernel_rfl) (fun _ _ _ h => h) (Or.inl ⟨by kernel_rfl, fun w hSw => by (go_simp)⟩) (by assumption) ?_
              simp only [Act.put, List.setIfInBounds_toArray, List.set_cons_zero, List.set_cons_succ]
              refine take_oneH 22 (i := 5) (v := .bool false) rfl rfl (by kernel_rfl) (by kernel_rfl) (by kernel_rfl) (fun _ _ _ h => h) (Or.inl ⟨by kernel_rfl, fun w hSw => by (go_simp)⟩) (by assumption) ?_
              simp only [Act.put, List.setIfInBounds_toArray, List.set_cons_zero, List.set_cons_succ]
              refine take_oneH 23 (i := 6) (v := .int .i64 ((j : Nat) : Int)) rfl rfl (by kernel_rfl) (by kernel_rfl) (by kernel_rfl) (fun _ _ _ h => h) (Or.inl ⟨by kernel_rfl, fun w hSw => by (go_simp)⟩) (by assumption) ?_
              simp only [Act.put, List.setIfInBounds_toArray, List.set_cons_zero, List.set_cons_succ]
              refine take_oneH 24 (i := 7) (v := .bool true) rfl rfl (by kernel_rfl) (by kernel_rfl) (by kernel_rfl) (fun _ _ _ h => h) (Or.inl ⟨by kernel_rfl, fun w hSw => by (go_simp)⟩) (by assumption) ?_
              simp only [Act.put, List.setIfInBounds_toArray, List.set_cons_zero, List.set_cons_succ]
              refine take_oneH 25 (i := 8) (v := .bool true) rfl rfl (by kernel_rfl) (by kernel_rfl) (by kernel_rfl) (fun _ _ _ h => h) (Or.inl ⟨by kernel_rfl, fun w hSw => by (go_simp)⟩) (by assumption) ?_
              simp only [Act.put, List.setIfInBounds_toArray, List.set_cons_zero, List.set_cons_succ]
              refine take_oneH 26 (i := 9) (v := .pointer (some ⟨w.heap.size, 3, none⟩)) rfl rfl (by kernel_rfl) (by kernel_rfl) (by kernel_rfl) (fun _ _ _ h => h) (Or.inl ⟨by kernel_rfl, fun w hSw => by (go_simp)⟩) (by assumption) ?_
              simp only [Act.put, List.setIfInBounds_toArray, List.set_cons_zero, List.set_cons_succ]
              refine take_oneH 27 (i := 10) (v := .func (.func 38) #[] #[]) rfl rfl (by kernel_rfl) (by kernel_rfl) (by kernel_rfl) (fun _ _ _ h => h) (Or.inl ⟨by kernel_rfl, fun w hSw => by (go_simp)⟩) (by assumption) ?_
              simp only [Act.put, List.setIfInBounds_toArray, List.set_cons_zero, List.set_cons_succ]
              refine take_oneH 28 (i := 11) (v := .slice (some ⟨b, off, none⟩) N cap) rfl rfl (by kernel_rfl) (by kernel_rfl) (by kernel_rfl) (fun _ _ _ h => h) (Or.inl ⟨by kernel_rfl, fun w hSw => by (go_simp)⟩) (by assumption) ?_
              simp only [Act.put, List.setIfInBounds_toArray, List.set_cons_zero, List.set_cons_succ]
              refine take_oneH 29 (i := 12) (v := .int .i64 ((j : Nat) : Int)) rfl rfl (by kernel_rfl) (by kernel_rfl) (by kernel_rfl) (fun _ _ _ h => h) (Or.inl ⟨by kernel_rfl, fun w hSw => by (go_simp)⟩) (by assumption) ?_
              simp only [Act.put, List.setIfInBounds_toArray, List.set_cons_zero, List.set_cons_succ]
              refine take_oneH 30 (i := 13) (v := .int .i64 ((j - 1 : Nat) : Int)) rfl rfl (by kernel_rfl) (by kernel_rfl) (by kernel_rfl) (fun _ _ _ h => h) (Or.inl ⟨by kernel_rfl, fun w hSw => by (go_simp)⟩) (by assumption) ?_
              simp only [Act.put, List.setIfInBounds_toArray, List.set_cons_zero, List.set_cons_succ]
              refine take_oneH 31 (i := 14) (v := .pointer (some ⟨b, off + (j - 1) * 5, none⟩)) rfl rfl (by kernel_rfl) (by kernel_rfl) (by kernel_rfl) (fun _ _ _ h => h) (Or.inl ⟨by kernel_rfl, fun w hSw => by (go_simp)⟩) (by assumption) ?_
              simp only [Act.put, List.setIfInBounds_toArray, List.set_cons_zero, List.set_cons_succ]
              refine take_oneH 32 (i := 15) (v := .agg #[.string z.name, .int .i64 z.id, .int .i64 z.plane, .int .i64 z.root, .int .i64 z.size]) rfl rfl (by kernel_rfl) (by kernel_rfl) (by kernel_rfl) (fun _ _ _ h => h) (Or.inl ⟨by kernel_rfl, fun w hSw => by (go_simp)⟩) (by assumption) ?_
              simp only [Act.put, List.setIfInBounds_toArray, List.set_cons_zero, List.set_cons_succ]
              refine take_oneH 33 (i := 16) (v := .agg #[.string y.name, .int .i64 y.id, .int .i64 y.plane, .int .i64 y.root, .int .i64 y.size]) rfl rfl (by kernel_rfl) (by kernel_rfl) (by kernel_rfl) (fun _ _ _ h => h) (Or.inl ⟨by kernel_rfl, fun w hSw => by (go_simp)⟩) (by assumption) ?_
              simp only [Act.put, List.setIfInBounds_toArray, List.set_cons_zero, List.set_cons_succ]
              refine wpAnyH_ready (rs := [17]) (by kernel_rfl) (by simp) ?_
              refine AllReadyH.cons rfl (fun K hK => ?_) (AllReadyH.nil)
              go_simp
              go_at_call 38
              refine (CL _).mono ?_
              rintro e v2 ⟨rfl, hB2⟩
              have K2 := Lib.hid (K1.out.trans (hB2.mono K1.out.size))
              clear hB2
              go_wp2_with fail
              refine hK.out _ _ (HKA.out _ K2.out) (fun hHeld => ?_)
              clear hK K
              try simp only [Act.put, List.setIfInBounds_toArray, List.set_cons_zero, List.set_cons_succ]
              refine take_oneH 35 (i := 18) (v := .bool true) rfl rfl (by kernel_rfl) (by kernel_rfl) (by kernel_rfl) (fun _ _ _ h => h) (Or.inl ⟨by kernel_rfl, fun w hSw => by (go_simp)⟩) (by assumption) ?_
              simp only [Act.put, List.setIfInBounds_toArray, List.set_cons_zero, List.set_cons_succ]
              refine take_oneH 36 (i := 19) (v := .bool true) rfl rfl (by kernel_rfl) (by kernel_rfl) (by kernel_rfl) (fun _ _ _ h => h) (Or.inl ⟨by kernel_rfl, fun w hSw => by (go_simp)⟩) (by assumption) ?_
              simp only [Act.put, List.setIfInBounds_toArray, List.set_cons_zero, List.set_cons_succ]
              refine take_oneH 37 (i := 20) (v := .bool true) rfl rfl (by kernel_rfl) (by kernel_rfl) (by kernel_rfl) (fun _ _ _ h => h) (Or.inl ⟨by kernel_rfl, fun w hSw => by (go_simp)⟩) (by assumption) ?_
              simp only [Act.put, List.setIfInBounds_toArray, List.set_cons_zero, List.set_cons_succ]
              refine wpAnyH_done (by kernel_rfl) ?_ _
              clear CM
              go_wp2
              go_ret
              exact ⟨by rw [HF.out]; rfl, HA.out.trans ((HU.out.trans (K2.out.mono HU.out.size)).mono HA.out.size)⟩
            | true =>
              have HE := Lib.hid (HM.out.succ hl HOK.out (fun _ => by rw [HY.out, HZ.out]; exact of_decide_eq_true (p := (z.id < y.id)) HQ.out))
              go_wp2_with fail
              refine wp_region_held_drew (S := fun w' => (w'.cell? ⟨w.heap.size, 2, none⟩ = some (.func (.func 35) #[] #[]) ∧ w'.cell? ⟨wr.heap.size, 0, none⟩ = some (.string y.name) ∧ w'.cell? ⟨wr.heap.size, 1, none⟩ = some (.int .i64 y.id) ∧ w'.cell? ⟨wr.heap.size, 2, none⟩ = some (.int .i64 y.plane) ∧ w'.cell? ⟨wr.heap.size, 3, none⟩ = some (.int .i64 y.root) ∧ w'.cell? ⟨wr.heap.size, 4, none⟩ = some (.int .i64 y.size) ∧ w'.cell? ⟨w.heap.size, 3, none⟩ = some (.func (.func 38) #[] #[])) ∧ (w'.cell? ⟨b, off + (j - 1) * 5, none⟩ = some (.string z.name) ∧ w'.cell? ⟨b, off + (j - 1) * 5 + 1, none⟩ = some (.int .i64 z.id) ∧ w'.cell? ⟨b, off + (j - 1) * 5 + 2, none⟩ = some (.int .i64 z.plane) ∧ w'.cell? ⟨b, off + (j - 1) * 5 + 3, none⟩ = some (.int .i64 z.root) ∧ w'.cell? ⟨b, off + (j - 1) * 5 + 4, none⟩ = some (.int .i64 z.size))) (by kernel_rfl) (HKA.out _ HR1.out) (fun hHeld => ?_)
              refine take_oneH 17 (i := 0) (v := .pointer (some ⟨w.heap.size, 2, none⟩)) rfl rfl (by kernel_rfl) (by kernel_rfl) (by kernel_rfl) (fun _ _ _ h => h) (Or.inl ⟨by kernel_rfl, fun w hSw => by (go_simp)⟩) (by assumption) ?_
              simp only [Act.put, List.setIfInBounds_toArray, List.set_cons_zero, List.set_cons_succ]
              refine take_oneH 18 (i := 1) (v := .func (.func 35) #[] #[]) rfl rfl (by kernel_rfl) (by kernel_rfl) (by kernel_rfl) (fun _ _ _ h => h) (Or.inl ⟨by kernel_rfl, fun w hSw => by (go_simp)⟩) (by assumption) ?_
              simp only [Act.put, List.setIfInBounds_toArray, List.set_cons_zero, List.set_cons_succ]
              refine take_oneH 19 (i := 2) (v := .agg #[.string y.name, .int .i64 y.id, .int .i64 y.plane, .int .i64 y.root, .int .i64 y.size]) rfl rfl (by kernel_rfl) (by kernel_rfl) (by kernel_rfl) (fun _ _ _ h => h) (Or.inl ⟨by kernel_rfl, fun w hSw => by (go_simp)⟩) (by assumption) ?_
              simp only [Act.put, List.setIfInBounds_toArray, List.set_cons_zero, List.set_cons_succ]
              refine wpAnyH_ready (rs := [3]) (by kernel_rfl) (by simp) ?_
              refine AllReadyH.cons rfl (fun K hK => ?_) (AllReadyH.nil)
              go_simp
              go_at_call 35
              refine (CM _).mono ?_
              rintro e v1 ⟨rfl, hB1⟩
              have K1 := Lib.hid hB1
              clear hB1
              go_wp2_with fail
              refine hK.out _ _ (HKA.out _ K1.out) (fun hHeld => ?_)
              clear hK K
              try simp only [Act.put, List.setIfInBounds_toArray, List.set_cons_zero, List.set_cons_succ]
              refine take_oneH 21 (i := 4) (v := .bool false) rfl rfl (by kernel_rfl) (by kernel_rfl) (by kernel_rfl) (fun _ _ _ h => h) (Or.inl ⟨by kernel_rfl, fun w hSw => by (go_simp)⟩) (by assumption) ?_
              simp only [Act.put, List.setIfInBounds_toArray, List.set_cons_zero, List.set_cons_succ]
              refine take_oneH 22 (i := 5) (v := .bool false) rfl rfl (by kernel_rfl) (by kernel_rfl) (by kernel_rfl) (fun _ _ _ h => h) (Or.inl ⟨by kernel_rfl, fun w hSw => by (go_simp)⟩) (by assumption) ?_
              simp only [Act.put, List.setIfInBounds_toArray, List.set_cons_zero, List.set_cons_succ]
              refine take_oneH 23 (i := 6) (v := .int .i64 ((j : Nat) : Int)) rfl rfl (by kernel_rfl) (by kernel_rfl) (by kernel_rfl) (fun _ _ _ h => h) (Or.inl ⟨by kernel_rfl, fun w hSw => by (go_simp)⟩) (by assumption) ?_
              simp only [Act.put, List.setIfInBounds_toArray, List.set_cons_zero, List.set_cons_succ]
              refine take_oneH 24 (i := 7) (v := .bool true) rfl rfl (by kernel_rfl) (by kernel_rfl) (by kernel_rfl) (fun _ _ _ h => h) (Or.inl ⟨by kernel_rfl, fun w hSw => by (go_simp)⟩) (by assumption) ?_
              simp only [Act.put, List.setIfInBounds_toArray, List.set_cons_zero, List.set_cons_succ]
              refine take_oneH 25 (i := 8) (v := .bool true) rfl rfl (by kernel_rfl) (by kernel_rfl) (by kernel_rfl) (fun _ _ _ h => h) (Or.inl ⟨by kernel_rfl, fun w hSw => by (go_simp)⟩) (by assumption) ?_
              simp only [Act.put, List.setIfInBounds_toArray, List.set_cons_zero, List.set_cons_succ]
              refine take_oneH 26 (i := 9) (v := .pointer (some ⟨w.heap.size, 3, none⟩)) rfl rfl (by kernel_rfl) (by kernel_rfl) (by kernel_rfl) (fun _ _ _ h => h) (Or.inl ⟨by kernel_rfl, fun w hSw => by (go_simp)⟩) (by assumption) ?_
              simp only [Act.put, List.setIfInBounds_toArray, List.set_cons_zero, List.set_cons_succ]
              refine take_oneH 27 (i := 10) (v := .func (.func 38) #[] #[]) rfl rfl (by kernel_rfl) (by kernel_rfl) (by kernel_rfl) (fun _ _ _ h => h) (Or.inl ⟨by kernel_rfl, fun w hSw => by (go_simp)⟩) (by assumption) ?_
              simp only [Act.put, List.setIfInBounds_toArray, List.set_cons_zero, List.set_cons_succ]
              refine take_oneH 28 (i := 11) (v := .slice (some ⟨b, off, none⟩) N cap) rfl rfl (by kernel_rfl) (by kernel_rfl) (by kernel_rfl) (fun _ _ _ h => h) (Or.inl ⟨by kernel_rfl, fun w hSw => by (go_simp)⟩) (by assumption) ?_
              simp only [Act.put, List.setIfInBounds_toArray, List.set_cons_zero, List.set_cons_succ]
              refine take_oneH 29 (i := 12) (v := .int .i64 ((j : Nat) : Int)) rfl rfl (by kernel_rfl) (by kernel_rfl) (by kernel_rfl) (fun _ _ _ h => h) (Or.inl ⟨by kernel_rfl, fun w hSw => by (go_simp)⟩) (by assumption) ?_
              simp only [Act.put, List.setIfInBounds_toArray, List.set_cons_zero, List.set_cons_succ]
              refine take_oneH 30 (i := 13) (v := .int .i64 ((j - 1 : Nat) : Int)) rfl rfl (by kernel_rfl) (by kernel_rfl) (by kernel_rfl) (fun _ _ _ h => h) (Or.inl ⟨by kernel_rfl, fun w hSw => by (go_simp)⟩) (by assumption) ?_
              simp only [Act.put, List.setIfInBounds_toArray, List.set_cons_zero, List.set_cons_succ]
              refine take_oneH 31 (i := 14) (v := .pointer (some ⟨b, off + (j - 1) * 5, none⟩)) rfl rfl (by kernel_rfl) (by kernel_rfl) (by kernel_rfl) (fun _ _ _ h => h) (Or.inl ⟨by kernel_rfl, fun w hSw => by (go_simp)⟩) (by assumption) ?_
              simp only [Act.put, List.setIfInBounds_toArray, List.set_cons_zero, List.set_cons_succ]
              refine take_oneH 32 (i := 15) (v := .agg #[.string z.name, .int .i64 z.id, .int .i64 z.plane, .int .i64 z.root, .int .i64 z.size]) rfl rfl (by kernel_rfl) (by kernel_rfl) (by kernel_rfl) (fun _ _ _ h => h) (Or.inl ⟨by kernel_rfl, fun w hSw => by (go_simp)⟩) (by assumption) ?_
              simp only [Act.put, List.setIfInBounds_toArray, List.set_cons_zero, List.set_cons_succ]
              refine take_oneH 33 (i := 16) (v := .agg #[.string y.name, .int .i64 y.id, .int .i64 y.plane, .int .i64 y.root, .int .i64 y.size]) rfl rfl (by kernel_rfl) (by kernel_rfl) (by kernel_rfl) (fun _ _ _ h => h) (Or.inl ⟨by kernel_rfl, fun w hSw => by (go_simp)⟩) (by assumption) ?_
              simp only [Act.put, List.setIfInBounds_toArray, List.set_cons_zero, List.set_cons_succ]
              refine wpAnyH_ready (rs := [17]) (by kernel_rfl) (by simp) ?_
              refine AllReadyH.cons rfl (fun K hK => ?_) (AllReadyH.nil)
              go_simp
              go_at_call 38
              refine (CL _).mono ?_
              rintro e v2 ⟨rfl, hB2⟩
              have K2 := Lib.hid (K1.out.trans (hB2.mono K1.out.size))
              clear hB2
              go_wp2_with fail
              refine hK.out _ _ (HKA.out _ K2.out) (fun hHeld => ?_)
              clear hK K
              try simp only [Act.put, List.setIfInBounds_toArray, List.set_cons_zero, List.set_cons_succ]
              refine take_oneH 35 (i := 18) (v := .bool false) rfl rfl (by kernel_rfl) (by kernel_rfl) (by kernel_rfl) (fun _ _ _ h => h) (Or.inl ⟨by kernel_rfl, fun w hSw => by (go_simp)⟩) (by assumption) ?_
              simp only [Act.put, List.setIfInBounds_toArray, List.set_cons_zero, List.set_cons_succ]
              refine take_oneH 36 (i := 19) (v := .bool false) rfl rfl (by kernel_rfl) (by kernel_rfl) (by kernel_rfl) (fun _ _ _ h => h) (Or.inl ⟨by kernel_rfl, fun w hSw => by (go_simp)⟩) (by assumption) ?_
              simp only [Act.put, List.setIfInBounds_toArray, List.set_cons_zero, List.set_cons_succ]
              refine take_oneH 37 (i := 20) (v := .bool false) rfl rfl (by kernel_rfl) (by kernel_rfl) (by kernel_rfl) (fun _ _ _ h => h) (Or.inl ⟨by kernel_rfl, fun w hSw => by (go_simp)⟩) (by assumption) ?_
              simp only [Act.put, List.setIfInBounds_toArray, List.set_cons_zero, List.set_cons_succ]
              refine wpAnyH_done (by kernel_rfl) ?_ _
              clear CM
              go_wp2
              go_roundw
              case rel => exact ⟨j + 1, hlt, by go_num, HE.out, HB.out.trans ((HU.out.trans (K2.out.mono HU.out.size)).mono HB.out.size)⟩
              case measure => simp [intOf]; omega
      · obtain rfl : j = N := by omega
        have HF := Lib.hid (show R = true by rw [← HR.out]; exact mayB_yes ⟨by rw [HN.out]; omega, by rw [HN.out]; exact HM.out⟩)
        go_wp2
        go_ret
        exact ⟨by rw [HF.out]; rfl, HB0.out.trans (HB.out.mono HB0.out.size)⟩
end Go.Proofs.YtffebghkmobeoaaGreatDoor

