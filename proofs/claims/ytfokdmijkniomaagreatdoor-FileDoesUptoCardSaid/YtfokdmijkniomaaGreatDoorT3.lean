/-
  TabR / TabG / TabP.
-/
import Derived.Test.YtfokdmijkniomaaGreatDoorT2
import Derived.Test.YtfokdmijkniomaaGreatDoorT1
import Derived.Laws.ResultCell
import Derived.Test.YtfokdmijkniomaaGreatDoorKG
import Derived.Laws.EntriesVeiled
import Derived.Lib.SmallJoins
namespace Go.Proofs.YtfokdmijkniomaaGreatDoor.WT
open Go.RowKit Go

theorem Moved.setNew {b c i : Nat} {o : Obj} {w v : World} (h : Moved b o w v) (hc : w.heap.size ≤ c) (hb : b < w.heap.size) (x : Value) : Moved b o w (v.setCell ⟨c, i, none⟩ x) := by
  have hn : b ≠ c := by omega
  refine ⟨h.os, h.tape, h.output, by simpa [World.setCell] using h.size, ?_, fun k hk hn => ?_⟩
  · rw [Below.heap_setCell _ _ _ _ hn]; exact h.here
  · have hkc : k ≠ c := by omega
    rw [Below.heap_setCell _ _ _ _ hkc]; exact h.block k hk hn
/-- what an allocation leaves -/
theorem Moved.made {b : Nat} {o : Obj} {w : World} (h : w.heap[b]? = some o) (x : Obj) : Moved b o w (w.alloc x) := (Moved.refl h).and ((Below.refl _ w).alloc (Nat.le_refl _) x)
set_option maxRecDepth 100000 in
set_option maxHeartbeats 4000000 in
theorem entRd_any (b : Nat) (hb0 : b ≠ 1) (r : Rd) (hs : r.rest.length ≤ 281474976710656) (w : World) (hg : GE w) (hb : w.heap[b]? = some (RO r)) :
    Calls Tryz.prog 129 #[.pointer (some ⟨b, 0, none⟩)] w fun v w' => v = .returned (.tuple #[entV (entRd 65535 r).1, .int .i64 (entRd 65535 r).2.err]) ∧ Moved b (RO (entRd 65535 r).2) w w' := by
  have hbl := lt_of_heap hb
  have hB : w.heap.size ≠ b := by omega
  have hBl : w.heap.size ≤ w.heap.size := Nat.le_refl _
  obtain ⟨w0, hw0⟩ : ∃ w0, w.alloc (.cells #[.string ⟨#[]⟩, .int .i64 0] 88) = w0 := ⟨_, rfl⟩
  have HM0 := Lib.hid (show Moved b (RO r) w w0 by rw [← hw0]; exact Moved.made hb _)
  have HX0 := Lib.hid (show w0.heap[w.heap.size]? = some (.cells #[.string ⟨#[]⟩, .int .i64 0] 88) by rw [← hw0]; exact heap_alloc_new w _)
  obtain ⟨q, hq⟩ : ∃ q, (entRd 65535 r) = q := ⟨_, rfl⟩
  rw [hq]
  unfold entRd at hq
  try simp only at hq
  have C1 := fun w => qtext_any b hb0 r 16 hs w
  have l1 : (textR r 16).2.rest.length ≤ 281474976710656 := Nat.le_trans (textR_rest _ _) hs
  generalize textR r 16 = p1 at *
  obtain ⟨n1, r1⟩ := p1
  simp only at C1 l1 hq
  have C2 := fun w => qnum_any b hb0 r1 65535 l1 w
  have l2 : (numR r1 65535).2.rest.length ≤ 281474976710656 := Nat.le_trans (numR_rest _ _) l1
  generalize numR r1 65535 = p2 at *
  obtain ⟨n2, r2⟩ := p2
  simp only at C2 l2 hq
  have HQ := Lib.hid hq
  clear hq
  go_enter Tryz.func129, Tryz.ntmps129
  go_wp2_with fail
  refine (C1 _ (hg.moved HM0.out hb0) HM0.out.here).mono ?_
  rintro e v1 ⟨rfl, hM⟩
  have hx := hM.other HX0.out hB
  have hM := HM0.out.trans hM
  clear C1
  unfold textV
  have c1_0 : v1.cell? ⟨w.heap.size, 0, none⟩ = some (.string ⟨#[]⟩) := by simp [World.cell?, hx]
  have f1 : ∀ i, v1.frozen? ⟨w.heap.size, i, none⟩ = false := fun i => by simp [World.frozen?, hx]
  have f1a := f1 0
  clear f1
  obtain ⟨u1, hu1⟩ : ∃ u, (v1.setCell ⟨w.heap.size, 0, none⟩ (.string (bs n1))) = u := ⟨_, rfl⟩
  have HM1 := Lib.hid (show Moved b (RO r1) w u1 by rw [← hu1]; exact (hM.setNew hBl hbl (i := 0) (.string (bs n1))))
  have HX1 := Lib.hid (show u1.heap[w.heap.size]? = some (.cells #[.string (bs n1), .int .i64 0] 88) by rw [← hu1]; exact (heap_set hx (i := 0) (.string (bs n1))))
  clear hM hx
  go_wp2_with fail
  refine (C2 _ (hg.moved HM1.out hb0) HM1.out.here).mono ?_
  rintro e v2 ⟨rfl, hM⟩
  have hx := hM.other HX1.out hB
  have hM := HM1.out.trans hM
  clear C2
  unfold numV
  have c2_1 : v2.cell? ⟨w.heap.size, 1, none⟩ = some (.int .i64 0) := by simp [World.cell?, hx]
  have f2 : ∀ i, v2.frozen? ⟨w.heap.size, i, none⟩ = false := fun i => by simp [World.frozen?, hx]
  have f2a := f2 1
  clear f2
  obtain ⟨u2, hu2⟩ : ∃ u, (v2.setCell ⟨w.heap.size, 1, none⟩ (.int .i64 (n2 : Nat))) = u := ⟨_, rfl⟩
  have HM2 := Lib.hid (show Moved b (RO r2) w u2 by rw [← hu2]; exact (hM.setNew hBl hbl (i := 1) (.int .i64 (n2 : Nat))))
  have HX2 := Lib.hid (show u2.heap[w.heap.size]? = some (.cells #[.string (bs n1), .int .i64 (n2 : Nat)] 88) by rw [← hu2]; exact (heap_set hx (i := 1) (.int .i64 (n2 : Nat))))
  clear hM hx
  have hx := HX2.out
  have d0 : u2.cell? ⟨w.heap.size, 0, none⟩ = some (.string (bs n1)) := by simp [World.cell?, hx]
  have d1 : u2.cell? ⟨w.heap.size, 1, none⟩ = some (.int .i64 (n2 : Nat)) := by simp [World.cell?, hx]
  have e0 : u2.frozen? ⟨w.heap.size, 0, none⟩ = false := by simp [World.frozen?, hx]
  have e1 : u2.frozen? ⟨w.heap.size, 1, none⟩ = false := by simp [World.frozen?, hx]
  obtain ⟨wz, hwz⟩ : ∃ u, ((u2.setCell ⟨w.heap.size, 0, none⟩ (.string (bs n1))).setCell ⟨w.heap.size, 1, none⟩ (.int .i64 (n2 : Nat))) = u := ⟨_, rfl⟩
  have HE := Lib.hid (show Moved b (RO r2) w wz by rw [← hwz]; exact ((HM2.out.setNew hBl hbl (i := 0) (.string (bs n1))).setNew hBl hbl (i := 1) (.int .i64 (n2 : Nat))))
  have hz : wz.heap[w.heap.size]? = some (.cells #[.string (bs n1), .int .i64 (n2 : Nat)] 88 (0, 0)) := by rw [← hwz]; exact (heap_set (heap_set HX2.out (i := 0) (.string (bs n1))) (i := 1) (.int .i64 (n2 : Nat)))
  have z0 : wz.cell? ⟨w.heap.size, 0, none⟩ = some (.string (bs n1)) := by simp [World.cell?, hz]
  have z1 : wz.cell? ⟨w.heap.size, 1, none⟩ = some (.int .i64 (n2 : Nat)) := by simp [World.cell?, hz]
  clear hx hz
  go_wp2_with fail
  rw [← HQ.out]
  refine bodyPost_ret ?_ rfl ⟨rfl, HE.out⟩
  rw [results_cell_tmp rfl]
  go_simp
  try rfl
end Go.Proofs.YtfokdmijkniomaaGreatDoor.WT

namespace Go.Proofs.YtfokdmijkniomaaGreatDoor.WT
open Go.RowKit Go

theorem results_cell_one {fn : Func} {p : Tmp} {ty : TypeId} (h : fn.results = #[.cell p ty]) (tmps : Array Value) (P : Program) (w : World) :
    (results fn tmps).run P w =
      ((asAddr (tmps.getD p undef)).run P w).andThen fun a w₁ => (loadVar ty a).run P w₁ := by
  simp only [results, h]
  simp [Sem.run_bind, Result.andThen]
noncomputable def mayB {T : Type} (K : Kd T) (l : List T) : Bool := by classical exact decide (May K l)
theorem mayB_iff {T : Type} {K : Kd T} {l : List T} : mayB K l = true ↔ May K l := by unfold mayB; simp
theorem mayB_no {T : Type} {K : Kd T} {l : List T} (h : ¬ May K l) : mayB K l = false := by
  cases e : mayB K l with
  | false => rfl
  | true => exact absurd (mayB_iff.1 e) h
theorem mayB_yes {T : Type} {K : Kd T} {l : List T} (h : May K l) : mayB K l = true := mayB_iff.2 h
/-- what package tables knows of entries -/
def tblEnt : Value := .agg #[.func (.func 127) #[] #[], .func (.func 129) #[] #[], .func (.func 132) #[] #[], .func (.func 134) #[] #[]]
def tblOEnt : Obj := .cells #[.func (.func 127) #[] #[], .func (.func 129) #[] #[], .func (.func 132) #[] #[], .func (.func 134) #[] #[]] 144 (0, 0)
theorem entT_any (w : World) : Calls Tryz.prog 95 #[] w fun e w' => e = .returned tblEnt ∧ Below w.heap.size w w' := by
  unfold tblEnt
  obtain ⟨u0, hu0⟩ : ∃ u, w.alloc (.cells #[.nilFunc, .nilFunc, .nilFunc, .nilFunc] 144) = u := ⟨_, rfl⟩
  have hx : u0.heap[w.heap.size]? = some (.cells #[.nilFunc, .nilFunc, .nilFunc, .nilFunc] 144 (0, 0)) := by rw [← hu0]; exact heap_alloc_new w _
  have c0 : u0.cell? ⟨w.heap.size, 0, none⟩ = some .nilFunc := by simp [World.cell?, hx]
  have f0 : u0.frozen? ⟨w.heap.size, 0, none⟩ = false := by simp [World.frozen?, hx]
  have c1 : u0.cell? ⟨w.heap.size, 1, none⟩ = some .nilFunc := by simp [World.cell?, hx]
  have f1 : u0.frozen? ⟨w.heap.size, 1, none⟩ = false := by simp [World.frozen?, hx]
  have c2 : u0.cell? ⟨w.heap.size, 2, none⟩ = some .nilFunc := by simp [World.cell?, hx]
  have f2 : u0.frozen? ⟨w.heap.size, 2, none⟩ = false := by simp [World.frozen?, hx]
  have c3 : u0.cell? ⟨w.heap.size, 3, none⟩ = some .nilFunc := by simp [World.cell?, hx]
  have f3 : u0.frozen? ⟨w.heap.size, 3, none⟩ = false := by simp [World.frozen?, hx]
  have hB : Below w.heap.size w u0 := by rw [← hu0]; exact (Below.refl _ w).alloc (Nat.le_refl _) _
  obtain ⟨u1, hu1⟩ : ∃ u, ((((u0.setCell ⟨w.heap.size, 0, none⟩ (.func (.func 127) #[] #[])).setCell ⟨w.heap.size, 1, none⟩ (.func (.func 129) #[] #[])).setCell ⟨w.heap.size, 2, none⟩ (.func (.func 132) #[] #[])).setCell ⟨w.heap.size, 3, none⟩ (.func (.func 134) #[] #[])) = u := ⟨_, rfl⟩
  have hy : u1.heap[w.heap.size]? = some (.cells #[.func (.func 127) #[] #[], .func (.func 129) #[] #[], .func (.func 132) #[] #[], .func (.func 134) #[] #[]] 144 (0, 0)) := by rw [← hu1]; exact (heap_set (heap_set (heap_set (heap_set hx (i := 0) (.func (.func 127) #[] #[])) (i := 1) (.func (.func 129) #[] #[])) (i := 2) (.func (.func 132) #[] #[])) (i := 3) (.func (.func 134) #[] #[]))
  have HB := Lib.hid (show Below w.heap.size w u1 by rw [← hu1]; exact ((((hB.setCell (p := ⟨w.heap.size, 0, none⟩) (Nat.le_refl _) (.func (.func 127) #[] #[])).setCell (p := ⟨w.heap.size, 1, none⟩) (Nat.le_refl _) (.func (.func 129) #[] #[])).setCell (p := ⟨w.heap.size, 2, none⟩) (Nat.le_refl _) (.func (.func 132) #[] #[])).setCell (p := ⟨w.heap.size, 3, none⟩) (Nat.le_refl _) (.func (.func 134) #[] #[])))
  have g0 : u1.cell? ⟨w.heap.size, 0, none⟩ = some (.func (.func 127) #[] #[]) := by simp [World.cell?, hy]
  have g1 : u1.cell? ⟨w.heap.size, 1, none⟩ = some (.func (.func 129) #[] #[]) := by simp [World.cell?, hy]
  have g2 : u1.cell? ⟨w.heap.size, 2, none⟩ = some (.func (.func 132) #[] #[]) := by simp [World.cell?, hy]
  have g3 : u1.cell? ⟨w.heap.size, 3, none⟩ = some (.func (.func 134) #[] #[]) := by simp [World.cell?, hy]
  clear hx hy hB
  go_enter Tryz.func95, Tryz.ntmps95
  go_wp2
  refine bodyPost_ret ?_ rfl ⟨rfl, HB.out⟩
  rw [results_cell_one rfl]
  go_simp
  try rfl
theorem ent_load {W : World} {b off : Nat} {l : List Ent} (h : ∀ j (_ : j < l.length) (i : Nat) (_ : i < 2), W.cell? ⟨b, off + j * 2 + i, none⟩ = (entC l[j])[i]?) (j : Nat) (hj : j < l.length) :
    W.cell? ⟨b, off + j * 2, none⟩ = some (.string l[j].name) ∧ W.cell? ⟨b, off + j * 2 + 1, none⟩ = some (.int .i64 l[j].num) := by
  refine ⟨h j hj 0 (by omega), h j hj 1 (by omega)⟩
set_option maxRecDepth 100000 in
set_option maxHeartbeats 4000000 in
theorem entMay_any (v : Value) (l : List Ent) (hn : l.length ≤ 9223372036854775807) (hs : ∀ x ∈ l, x.name.size ≤ 140737488355328) (w : World) (h : LstAt entC 2 w v l) :
    Calls Tryz.prog 125 #[tblEnt, v] w fun e w' => e = .returned (.bool (mayB kE l)) ∧ Below w.heap.size w w' := by
  obtain ⟨R, hR⟩ : ∃ R, mayB kE l = R := ⟨_, rfl⟩
  rw [hR]
  have HR := Lib.hid hR
  clear hR
  obtain ⟨a, cap, rfl, hc⟩ := h
  obtain ⟨N, hN⟩ : ∃ N, l.length = N := ⟨_, rfl⟩
  rw [hN] at hn ⊢
  obtain ⟨w0, hw0⟩ : ∃ w0, w.alloc tblOEnt = w0 := ⟨_, rfl⟩
  have HB0 := Lib.hid (show Below w.heap.size w w0 by rw [← hw0]; exact (Below.refl _ w).alloc (Nat.le_refl _) _)
  have HO := Lib.hid (show w0.heap[w.heap.size]? = some tblOEnt by rw [← hw0]; exact heap_alloc_new w _)
  unfold tblOEnt at hw0
  unfold tblEnt
  have HC := Lib.hid hc
  have HN := Lib.hid hN
  have HS := Lib.hid hs
  clear hc hN hs
  by_cases h4 : 4096 < N
  · have h4i : (4096 : Int) < (N : Int) := by omega
    have HF := Lib.hid (show R = false by rw [← HR.out]; exact mayB_no (not_may_long (by rw [HN.out]; exact h4)))
    clear h4
    go_enter Tryz.func125, Tryz.ntmps125
    go_wp2
    go_ret
    exact ⟨by rw [HF.out]; rfl, HB0.out⟩
  · have h4i : (N : Int) ≤ 4096 := by omega
    clear h4
    go_enter Tryz.func125, Tryz.ntmps125
    go_wp2_with fail
    go_loopw [12] (fun i wr => ∃ j : Nat, j ≤ N ∧ i = .int .i64 j ∧ MayTo kE l j ∧ Below w0.heap.size w0 wr) (fun i _ => N - (intOf i).toNat)
    case atStart => exact ⟨0, Nat.zero_le _, rfl, MayTo.zero l, Below.refl _ _⟩
    case round =>
      obtain ⟨j, hj, rfl, hm, hB⟩ := hrel
      have HM := Lib.hid hm
      have HB := Lib.hid hB
      clear hm hB
      by_cases hlt : j < N
      · have hl : j < l.length := by rw [HN.out]; exact hlt
        have hji : (j : Int) < (N : Int) := by omega
        obtain ⟨b, off, rfl, hb, hcells⟩ := HC.out (by intro e; rw [e] at hl; simp at hl)
        have HA := Lib.hid (HB0.out.trans (HB.out.mono HB0.out.size))
        obtain ⟨wr', hwr⟩ : ∃ u, u = wr := ⟨_, rfl⟩
        have HCL := Lib.hid (fun (W : World) (hW : Below wr.heap.size wr W) => ent_load (W := W) (b := b) (off := off) (l := l) (fun j hj i hi => (World.cell?_of_block (w := w) ((HA.out.trans (hW.mono HA.out.size)).block b hb)).trans (hcells j hj i hi)))
        clear hcells hwr wr'
        obtain ⟨y, hy⟩ : ∃ y, l[j] = y := ⟨_, rfl⟩
        obtain ⟨c0, c1⟩ := HCL.out wr (Below.refl _ wr) j hl
        rw [hy] at c0 c1
        have HY := Lib.hid hy
        have hys : y.name.size ≤ 140737488355328 := by rw [← hy]; exact HS.out _ (List.getElem_mem hl)
        clear hy
        obtain ⟨u0, hu0⟩ : ∃ u, wr.alloc (.cells #[.string ⟨#[]⟩, .int .i64 0] 88) = u := ⟨_, rfl⟩
        have hx0 : u0.heap[wr.heap.size]? = some (.cells #[.string ⟨#[]⟩, .int .i64 0] 88 (0, 0)) := by rw [← hu0]; exact heap_alloc_new wr _
        have z0 : u0.cell? ⟨wr.heap.size, 0, none⟩ = some (.string ⟨#[]⟩) := by simp [World.cell?, hx0]
        have z1 : u0.cell? ⟨wr.heap.size, 1, none⟩ = some (.int .i64 0) := by simp [World.cell?, hx0]
        have f0 : u0.frozen? ⟨wr.heap.size, 0, none⟩ = false := by simp [World.frozen?, hx0]
        have f1 : u0.frozen? ⟨wr.heap.size, 1, none⟩ = false := by simp [World.frozen?, hx0]
        have hu : Below wr.heap.size wr u0 := by rw [← hu0]; exact (Below.refl _ wr).alloc (Nat.le_refl _) _
        obtain ⟨u1, hu1⟩ : ∃ u, ((u0.setCell ⟨wr.heap.size, 0, none⟩ (.string y.name)).setCell ⟨wr.heap.size, 1, none⟩ (.int .i64 y.num)) = u := ⟨_, rfl⟩
        have HX := Lib.hid (show u1.heap[wr.heap.size]? = some (.cells #[.string y.name, .int .i64 y.num] 88 (0, 0)) by rw [← hu1]; exact (heap_set (heap_set hx0 (i := 0) (.string y.name)) (i := 1) (.int .i64 y.num)))
        have HU := Lib.hid (show Below wr.heap.size wr u1.drew by rw [← hu1]; exact Below.drew ((hu.setCell (p := ⟨wr.heap.size, 0, none⟩) (Nat.le_refl _) (.string y.name)).setCell (p := ⟨wr.heap.size, 1, none⟩) (Nat.le_refl _) (.int .i64 y.num)))
        clear hx0 hu
        have HK := Lib.hid (show ∀ W, Below u1.drew.heap.size u1.drew W → W.cell? ⟨w.heap.size, 2, none⟩ = some (.func (.func 132) #[] #[]) ∧ W.cell? ⟨wr.heap.size, 0, none⟩ = some (.string y.name) ∧ W.cell? ⟨wr.heap.size, 1, none⟩ = some (.int .i64 y.num) ∧ W.cell? ⟨w.heap.size, 3, none⟩ = some (.func (.func 134) #[] #[]) from fun W hW => by
          have e := (hW.block _ (lt_of_heap HX.out)).trans HX.out
          have hl0 : w.heap.size < wr.heap.size := Nat.lt_of_lt_of_le (lt_of_heap HO.out) HB.out.size
          have e2 := (hW.block _ (Nat.lt_of_lt_of_le hl0 HU.out.size)).trans ((HU.out.block _ hl0).trans ((HB.out.block _ (lt_of_heap HO.out)).trans HO.out))
          exact ⟨by simp [World.cell?, e2, tblOEnt], by simp [World.cell?, e], by simp [World.cell?, e], by simp [World.cell?, e2, tblOEnt]⟩)
        have CM := fun w => entM_any y hys w
        unfold entV at CM
        have HR1 := Lib.hid (Below.refl u1.drew.heap.size u1.drew)
        obtain ⟨p, hp⟩ : ∃ p, okEB y = p := ⟨_, rfl⟩
        rw [hp] at CM
        have HP := Lib.hid hp
        clear hp hb hys
        cases p with
        | false =>
          have HF := Lib.hid (show R = false by rw [← HR.out]; exact mayB_no (not_may_ok hl (by rw [HY.out]; exact fun e => by have e2 := (okEB_iff y).2 e; rw [HP.out] at e2; cases e2)))
          go_wp2_with fail
          refine wp_region_held_drew (S := fun w' => w'.cell? ⟨w.heap.size, 2, none⟩ = some (.func (.func 132) #[] #[]) ∧ w'.cell? ⟨wr.heap.size, 0, none⟩ = some (.string y.name) ∧ w'.cell? ⟨wr.heap.size, 1, none⟩ = some (.int .i64 y.num) ∧ w'.cell? ⟨w.heap.size, 3, none⟩ = some (.func (.func 134) #[] #[])) (by kernel_rfl) (HK.out _ HR1.out) (fun hHeld => ?_)
          refine tkH 17 (i := 0) (v := .pointer (some ⟨w.heap.size, 2, none⟩)) (h := ?_)
          simp only [Act.put, stA, st0, st1]
          refine tkH 18 (i := 1) (v := .func (.func 132) #[] #[]) (h := ?_)
          simp only [Act.put, stA, st0, st1]
          refine tkH 19 (i := 2) (v := .agg #[.string y.name, .int .i64 y.num]) (h := ?_)
          simp only [Act.put, stA, st0, st1]
          refine wpAnyH_ready (rs := [3]) (by kernel_rfl) (by simp) ?_
          refine AllReadyH.cons rfl (fun K hK => ?_) (AllReadyH.nil)
          go_simp
          go_at_call 132
          refine (CM _).mono ?_
          rintro e v1 ⟨rfl, hB1⟩
          have K1 := Lib.hid hB1
          clear hB1
          go_wp2_with fail
          refine hK.out _ _ (HK.out _ K1.out) (fun hHeld => ?_)
          clear hK K
          try simp only [Act.put, stA, st0, st1]
          refine tkH 21 (i := 4) (v := .bool true) (h := ?_)
          simp only [Act.put, stA, st0, st1]
          refine tkH 22 (i := 5) (v := .bool true) (h := ?_)
          simp only [Act.put, stA, st0, st1]
          refine tkU 23 (i := 6) (v := undef) (h := ?_)
          simp only [Act.put, stA, st0, st1]
          refine tkU 24 (i := 7) (v := undef) (h := ?_)
          simp only [Act.put, stA, st0, st1]
          refine tkU 25 (i := 8) (v := undef) (h := ?_)
          simp only [Act.put, stA, st0, st1]
          refine tkU 26 (i := 9) (v := undef) (h := ?_)
          simp only [Act.put, stA, st0, st1]
          refine tkU 27 (i := 10) (v := undef) (h := ?_)
          simp only [Act.put, stA, st0, st1]
          refine tkU 28 (i := 11) (v := undef) (h := ?_)
          simp only [Act.put, stA, st0, st1]
          refine tkU 29 (i := 12) (v := undef) (h := ?_)
          simp only [Act.put, stA, st0, st1]
          refine tkU 30 (i := 13) (v := undef) (h := ?_)
          simp only [Act.put, stA, st0, st1]
          refine tkU 31 (i := 14) (v := undef) (h := ?_)
          simp only [Act.put, stA, st0, st1]
          refine tkU 32 (i := 15) (v := undef) (h := ?_)
          simp only [Act.put, stA, st0, st1]
          refine tkU 33 (i := 16) (v := undef) (h := ?_)
          simp only [Act.put, stA, st0, st1]
          refine tkU 34 (i := 17) (v := undef) (h := ?_)
          simp only [Act.put, stA, st0, st1]
          refine tkU 35 (i := 18) (v := undef) (h := ?_)
          simp only [Act.put, stA, st0, st1]
          refine tkU 36 (i := 19) (v := undef) (h := ?_)
          simp only [Act.put, stA, st0, st1]
          refine tkH 37 (i := 20) (v := .bool true) (h := ?_)
          simp only [Act.put, stA, st0, st1]
          refine wpAnyH_done (by kernel_rfl) ?_ _
          clear CM
          go_wp2
          go_ret
          exact ⟨by rw [HF.out]; rfl, HA.out.trans ((HU.out.trans (K1.out.mono HU.out.size)).mono HA.out.size)⟩
        | true =>
          have hok : kE.ok l[j] := by rw [HY.out]; exact (okEB_iff y).1 HP.out
          have HOK := Lib.hid hok
          clear hok
          by_cases hj0 : j = 0
          · have HE := Lib.hid (HM.out.succ hl HOK.out (fun h => absurd h (by omega)))
            have hjn : ¬ (0 < j) := by omega
            clear hj0
            go_wp2_with fail
            refine wp_region_held_drew (S := fun w' => w'.cell? ⟨w.heap.size, 2, none⟩ = some (.func (.func 132) #[] #[]) ∧ w'.cell? ⟨wr.heap.size, 0, none⟩ = some (.string y.name) ∧ w'.cell? ⟨wr.heap.size, 1, none⟩ = some (.int .i64 y.num) ∧ w'.cell? ⟨w.heap.size, 3, none⟩ = some (.func (.func 134) #[] #[])) (by kernel_rfl) (HK.out _ HR1.out) (fun hHeld => ?_)
            refine tkH 17 (i := 0) (v := .pointer (some ⟨w.heap.size, 2, none⟩)) (h := ?_)
            simp only [Act.put, stA, st0, st1]
            refine tkH 18 (i := 1) (v := .func (.func 132) #[] #[]) (h := ?_)
            simp only [Act.put, stA, st0, st1]
            refine tkH 19 (i := 2) (v := .agg #[.string y.name, .int .i64 y.num]) (h := ?_)
            simp only [Act.put, stA, st0, st1]
            refine wpAnyH_ready (rs := [3]) (by kernel_rfl) (by simp) ?_
            refine AllReadyH.cons rfl (fun K hK => ?_) (AllReadyH.nil)
            go_simp
            go_at_call 132
            refine (CM _).mono ?_
            rintro e v1 ⟨rfl, hB1⟩
            have K1 := Lib.hid hB1
            clear hB1
            go_wp2_with fail
            refine hK.out _ _ (HK.out _ K1.out) (fun hHeld => ?_)
            clear hK K
            try simp only [Act.put, stA, st0, st1]
            refine tkH 21 (i := 4) (v := .bool false) (h := ?_)
            simp only [Act.put, stA, st0, st1]
            refine tkH 22 (i := 5) (v := .bool false) (h := ?_)
            simp only [Act.put, stA, st0, st1]
            refine tkH 23 (i := 6) (v := .int .i64 ((j : Nat) : Int)) (h := ?_)
            simp only [Act.put, stA, st0, st1]
            refine tkH 24 (i := 7) (v := .bool false) (h := ?_)
            simp only [Act.put, stA, st0, st1]
            refine tkH 25 (i := 8) (v := .bool false) (h := ?_)
            simp only [Act.put, stA, st0, st1]
            refine tkU 26 (i := 9) (v := undef) (h := ?_)
            simp only [Act.put, stA, st0, st1]
            refine tkU 27 (i := 10) (v := undef) (h := ?_)
            simp only [Act.put, stA, st0, st1]
            refine tkU 28 (i := 11) (v := undef) (h := ?_)
            simp only [Act.put, stA, st0, st1]
            refine tkU 29 (i := 12) (v := undef) (h := ?_)
            simp only [Act.put, stA, st0, st1]
            refine tkU 30 (i := 13) (v := undef) (h := ?_)
            simp only [Act.put, stA, st0, st1]
            refine tkU 31 (i := 14) (v := undef) (h := ?_)
            simp only [Act.put, stA, st0, st1]
            refine tkU 32 (i := 15) (v := undef) (h := ?_)
            simp only [Act.put, stA, st0, st1]
            refine tkU 33 (i := 16) (v := undef) (h := ?_)
            simp only [Act.put, stA, st0, st1]
            refine tkU 34 (i := 17) (v := undef) (h := ?_)
            simp only [Act.put, stA, st0, st1]
            refine tkU 35 (i := 18) (v := undef) (h := ?_)
            simp only [Act.put, stA, st0, st1]
            refine tkH 36 (i := 19) (v := .bool false) (h := ?_)
            simp only [Act.put, stA, st0, st1]
            refine tkH 37 (i := 20) (v := .bool false) (h := ?_)
            simp only [Act.put, stA, st0, st1]
            refine wpAnyH_done (by kernel_rfl) ?_ _
            clear CM
            go_wp2
            go_roundw
            case rel => exact ⟨j + 1, hlt, by go_num, HE.out, HB.out.trans ((HU.out.trans (K1.out.mono HU.out.size)).mono HB.out.size)⟩
            case measure => simp [intOf]; omega
          · have hji1 : (0 : Int) < (j : Int) := by omega
            have hj1 : j - 1 < l.length := by omega
            have ej : (j : Int) - 1 = ((j - 1 : Nat) : Int) := by omega
            have hjn : 0 < j := by omega
            have ew : IntKind.i64.wrap ((j - 1 : Nat) : Int) = ((j - 1 : Nat) : Int) := wrap64 _ (by omega) (by omega)
            have ej0 : (0 : Int) ≤ ((j - 1 : Nat) : Int) := by omega
            have ejN : ((j - 1 : Nat) : Int) < (N : Int) := by omega
            obtain ⟨z, hz⟩ : ∃ z, l[j - 1] = z := ⟨_, rfl⟩
            have HZ := Lib.hid hz
            have HKA := Lib.hid (show ∀ W, Below u1.drew.heap.size u1.drew W → (W.cell? ⟨w.heap.size, 2, none⟩ = some (.func (.func 132) #[] #[]) ∧ W.cell? ⟨wr.heap.size, 0, none⟩ = some (.string y.name) ∧ W.cell? ⟨wr.heap.size, 1, none⟩ = some (.int .i64 y.num) ∧ W.cell? ⟨w.heap.size, 3, none⟩ = some (.func (.func 134) #[] #[])) ∧ (W.cell? ⟨b, off + (j - 1) * 2, none⟩ = some (.string z.name) ∧ W.cell? ⟨b, off + (j - 1) * 2 + 1, none⟩ = some (.int .i64 z.num)) from fun W hW => by
              have h := HCL.out W (HU.out.trans (hW.mono HU.out.size)) (j - 1) hj1
              rw [HZ.out] at h
              exact ⟨HK.out W hW, h⟩)
            clear hz
            have CL := fun w => entL_any z y w
            unfold entV at CL
            obtain ⟨q, hq⟩ : ∃ q, Op.bytesLess z.name.toList y.name.toList = q := ⟨_, rfl⟩
            rw [hq] at CL
            have HQ := Lib.hid hq
            clear hq
            cases q with
            | false =>
              have HF := Lib.hid (show R = false by rw [← HR.out]; exact mayB_no (not_may_lt hl (by omega) (by rw [HY.out, HZ.out]; exact fun e => absurd (HQ.out.symm.trans e) (by decide))))
              go_wp2_with fail
              refine wp_region_held_drew (S := fun w' => (w'.cell? ⟨w.heap.size, 2, none⟩ = some (.func (.func 132) #[] #[]) ∧ w'.cell? ⟨wr.heap.size, 0, none⟩ = some (.string y.name) ∧ w'.cell? ⟨wr.heap.size, 1, none⟩ = some (.int .i64 y.num) ∧ w'.cell? ⟨w.heap.size, 3, none⟩ = some (.func (.func 134) #[] #[])) ∧ (w'.cell? ⟨b, off + (j - 1) * 2, none⟩ = some (.string z.name) ∧ w'.cell? ⟨b, off + (j - 1) * 2 + 1, none⟩ = some (.int .i64 z.num))) (by kernel_rfl) (HKA.out _ HR1.out) (fun hHeld => ?_)
              refine tkH 17 (i := 0) (v := .pointer (some ⟨w.heap.size, 2, none⟩)) (h := ?_)
              simp only [Act.put, stA, st0, st1]
              refine tkH 18 (i := 1) (v := .func (.func 132) #[] #[]) (h := ?_)
              simp only [Act.put, stA, st0, st1]
              refine tkH 19 (i := 2) (v := .agg #[.string y.name, .int .i64 y.num]) (h := ?_)
              simp only [Act.put, stA, st0, st1]
              refine wpAnyH_ready (rs := [3]) (by kernel_rfl) (by simp) ?_
              refine AllReadyH.cons rfl (fun K hK => ?_) (AllReadyH.nil)
              go_simp
              go_at_call 132
              refine (CM _).mono ?_
              rintro e v1 ⟨rfl, hB1⟩
              have K1 := Lib.hid hB1
              clear hB1
              go_wp2_with fail
              refine hK.out _ _ (HKA.out _ K1.out) (fun hHeld => ?_)
              clear hK K
              try simp only [Act.put, stA, st0, st1]
              refine tkH 21 (i := 4) (v := .bool false) (h := ?_)
              simp only [Act.put, stA, st0, st1]
              refine tkH 22 (i := 5) (v := .bool false) (h := ?_)
              simp only [Act.put, stA, st0, st1]
              refine tkH 23 (i := 6) (v := .int .i64 ((j : Nat) : Int)) (h := ?_)
              simp only [Act.put, stA, st0, st1]
              refine tkH 24 (i := 7) (v := .bool true) (h := ?_)
              simp only [Act.put, stA, st0, st1]
              refine tkH 25 (i := 8) (v := .bool true) (h := ?_)
              simp only [Act.put, stA, st0, st1]
              refine tkH 26 (i := 9) (v := .pointer (some ⟨w.heap.size, 3, none⟩)) (h := ?_)
              simp only [Act.put, stA, st0, st1]
              refine tkH 27 (i := 10) (v := .func (.func 134) #[] #[]) (h := ?_)
              simp only [Act.put, stA, st0, st1]
              refine tkH 28 (i := 11) (v := .slice (some ⟨b, off, none⟩) N cap) (h := ?_)
              simp only [Act.put, stA, st0, st1]
              refine tkH 29 (i := 12) (v := .int .i64 ((j : Nat) : Int)) (h := ?_)
              simp only [Act.put, stA, st0, st1]
              refine tkH 30 (i := 13) (v := .int .i64 ((j - 1 : Nat) : Int)) (h := ?_)
              simp only [Act.put, stA, st0, st1]
              refine tkH 31 (i := 14) (v := .pointer (some ⟨b, off + (j - 1) * 2, none⟩)) (h := ?_)
              simp only [Act.put, stA, st0, st1]
              refine tkH 32 (i := 15) (v := .agg #[.string z.name, .int .i64 z.num]) (h := ?_)
              simp only [Act.put, stA, st0, st1]
              refine tkH 33 (i := 16) (v := .agg #[.string y.name, .int .i64 y.num]) (h := ?_)
              simp only [Act.put, stA, st0, st1]
              refine wpAnyH_ready (rs := [17]) (by kernel_rfl) (by simp) ?_
              refine AllReadyH.cons rfl (fun K hK => ?_) (AllReadyH.nil)
              go_simp
              go_at_call 134
              refine (CL _).mono ?_
              rintro e v2 ⟨rfl, hB2⟩
              have K2 := Lib.hid (K1.out.trans (hB2.mono K1.out.size))
              clear hB2
              go_wp2_with fail
              refine hK.out _ _ (HKA.out _ K2.out) (fun hHeld => ?_)
              clear hK K
              try simp only [Act.put, stA, st0, st1]
              refine tkH 35 (i := 18) (v := .bool true) (h := ?_)
              simp only [Act.put, stA, st0, st1]
              refine tkH 36 (i := 19) (v := .bool true) (h := ?_)
              simp only [Act.put, stA, st0, st1]
              refine tkH 37 (i := 20) (v := .bool true) (h := ?_)
              simp only [Act.put, stA, st0, st1]
              refine wpAnyH_done (by kernel_rfl) ?_ _
              clear CM
              go_wp2
              go_ret
              exact ⟨by rw [HF.out]; rfl, HA.out.trans ((HU.out.trans (K2.out.mono HU.out.size)).mono HA.out.size)⟩
            | true =>
              have HE := Lib.hid (HM.out.succ hl HOK.out (fun _ => by rw [HY.out, HZ.out]; exact HQ.out))
              go_wp2_with fail
              refine wp_region_held_drew (S := fun w' => (w'.cell? ⟨w.heap.size, 2, none⟩ = some (.func (.func 132) #[] #[]) ∧ w'.cell? ⟨wr.heap.size, 0, none⟩ = some (.string y.name) ∧ w'.cell? ⟨wr.heap.size, 1, none⟩ = some (.int .i64 y.num) ∧ w'.cell? ⟨w.heap.size, 3, none⟩ = some (.func (.func 134) #[] #[])) ∧ (w'.cell? ⟨b, off + (j - 1) * 2, none⟩ = some (.string z.name) ∧ w'.cell? ⟨b, off + (j - 1) * 2 + 1, none⟩ = some (.int .i64 z.num))) (by kernel_rfl) (HKA.out _ HR1.out) (fun hHeld => ?_)
              refine tkH 17 (i := 0) (v := .pointer (some ⟨w.heap.size, 2, none⟩)) (h := ?_)
              simp only [Act.put, stA, st0, st1]
              refine tkH 18 (i := 1) (v := .func (.func 132) #[] #[]) (h := ?_)
              simp only [Act.put, stA, st0, st1]
              refine tkH 19 (i := 2) (v := .agg #[.string y.name, .int .i64 y.num]) (h := ?_)
              simp only [Act.put, stA, st0, st1]
              refine wpAnyH_ready (rs := [3]) (by kernel_rfl) (by simp) ?_
              refine AllReadyH.cons rfl (fun K hK => ?_) (AllReadyH.nil)
              go_simp
              go_at_call 132
              refine (CM _).mono ?_
              rintro e v1 ⟨rfl, hB1⟩
              have K1 := Lib.hid hB1
              clear hB1
              go_wp2_with fail
              refine hK.out _ _ (HKA.out _ K1.out) (fun hHeld => ?_)
              clear hK K
              try simp only [Act.put, stA, st0, st1]
              refine tkH 21 (i := 4) (v := .bool false) (h := ?_)
              simp only [Act.put, stA, st0, st1]
              refine tkH 22 (i := 5) (v := .bool false) (h := ?_)
              simp only [Act.put, stA, st0, st1]
              refine tkH 23 (i := 6) (v := .int .i64 ((j : Nat) : Int)) (h := ?_)
              simp only [Act.put, stA, st0, st1]
              refine tkH 24 (i := 7) (v := .bool true) (h := ?_)
              simp only [Act.put, stA, st0, st1]
              refine tkH 25 (i := 8) (v := .bool true) (h := ?_)
              simp only [Act.put, stA, st0, st1]
              refine tkH 26 (i := 9) (v := .pointer (some ⟨w.heap.size, 3, none⟩)) (h := ?_)
              simp only [Act.put, stA, st0, st1]
              refine tkH 27 (i := 10) (v := .func (.func 134) #[] #[]) (h := ?_)
              simp only [Act.put, stA, st0, st1]
              refine tkH 28 (i := 11) (v := .slice (some ⟨b, off, none⟩) N cap) (h := ?_)
              simp only [Act.put, stA, st0, st1]
              refine tkH 29 (i := 12) (v := .int .i64 ((j : Nat) : Int)) (h := ?_)
              simp only [Act.put, stA, st0, st1]
              refine tkH 30 (i := 13) (v := .int .i64 ((j - 1 : Nat) : Int)) (h := ?_)
              simp only [Act.put, stA, st0, st1]
              refine tkH 31 (i := 14) (v := .pointer (some ⟨b, off + (j - 1) * 2, none⟩)) (h := ?_)
              simp only [Act.put, stA, st0, st1]
              refine tkH 32 (i := 15) (v := .agg #[.string z.name, .int .i64 z.num]) (h := ?_)
              simp only [Act.put, stA, st0, st1]
              refine tkH 33 (i := 16) (v := .agg #[.string y.name, .int .i64 y.num]) (h := ?_)
              simp only [Act.put, stA, st0, st1]
              refine wpAnyH_ready (rs := [17]) (by kernel_rfl) (by simp) ?_
              refine AllReadyH.cons rfl (fun K hK => ?_) (AllReadyH.nil)
              go_simp
              go_at_call 134
              refine (CL _).mono ?_
              rintro e v2 ⟨rfl, hB2⟩
              have K2 := Lib.hid (K1.out.trans (hB2.mono K1.out.size))
              clear hB2
              go_wp2_with fail
              refine hK.out _ _ (HKA.out _ K2.out) (fun hHeld => ?_)
              clear hK K
              try simp only [Act.put, stA, st0, st1]
              refine tkH 35 (i := 18) (v := .bool false) (h := ?_)
              simp only [Act.put, stA, st0, st1]
              refine tkH 36 (i := 19) (v := .bool false) (h := ?_)
              simp only [Act.put, stA, st0, st1]
              refine tkH 37 (i := 20) (v := .bool false) (h := ?_)
              simp only [Act.put, stA, st0, st1]
              refine wpAnyH_done (by kernel_rfl) ?_ _
              clear CM
              go_wp2
              go_roundw
              case rel => exact ⟨j + 1, hlt, by go_num, HE.out, HB.out.trans ((HU.out.trans (K2.out.mono HU.out.size)).mono HB.out.size)⟩
              case measure => simp [intOf]; omega
      · obtain rfl : j = N := by omega
        have HF := Lib.hid (show R = true by rw [← HR.out]; exact mayB_yes ⟨by rw [HN.out]; omega, by rw [HN.out]; exact HM.out⟩)
        go_wp2
        go_ret
        exact ⟨by rw [HF.out]; rfl, HB0.out.trans (HB.out.mono HB0.out.size)⟩
end Go.Proofs.YtfokdmijkniomaaGreatDoor.WT

namespace Go.Proofs.YtfokdmijkniomaaGreatDoor.WT
open Go.RowKit Go

def lenOf : Value → Nat
  | .slice _ n _ => n
  | _ => 0
theorem cells_new (w : World) (cs : List Value) (t : TypeId) : ∀ j u, cs[j]? = some u → (w.alloc (.cells cs.toArray t)).cell? ((⟨w.heap.size, 0, none⟩ : Addr).add j) = some u := by
  intro j u hj
  have h := heap_alloc_new w (.cells cs.toArray t)
  generalize w.alloc (.cells cs.toArray t) = W at h ⊢
  rw [Addr.add_lit]
  simp [World.cell?, h, hj]
theorem owns_later {W W' : World} {base k : Nat} {e : TypeId} {v : Value} {n : Nat} {xs : List Value} (h : W.ownsRow base e k v n xs) (hB : Below W.heap.size W W') : W'.ownsRow base e k v n xs := by
  refine ⟨h.1, ?_⟩
  rcases h.2 with h1 | ⟨g, cap, cur, rfl, h2, h3, h4⟩
  · exact .inl h1
  · exact .inr ⟨g, cap, cur, rfl, h2, (hB.block g (lt_of_heap h3)).trans h3, h4⟩
theorem owns_moved' {W W' : World} {base k b : Nat} {o : Obj} {e : TypeId} {v : Value} {n : Nat} {xs : List Value} (h : W.ownsRow base e k v n xs) (hM : Moved b o W W') (hb : b < base) : W'.ownsRow base e k v n xs := by
  refine ⟨h.1, ?_⟩
  rcases h.2 with h1 | ⟨g, cap, cur, rfl, h2, h3, h4⟩
  · exact .inl h1
  · exact .inr ⟨g, cap, cur, rfl, h2, (hM.block g (lt_of_heap h3) (by omega)).trans h3, h4⟩
theorem owns_set {W : World} {base k c i : Nat} {e : TypeId} {v : Value} {n : Nat} {xs : List Value} (h : W.ownsRow base e k v n xs) (hc : ∀ g, v.ownBlock = some g → g ≠ c) (x : Value) : (W.setCell ⟨c, i, none⟩ x).ownsRow base e k v n xs := by
  refine ⟨h.1, ?_⟩
  rcases h.2 with h1 | ⟨g, cap, cur, rfl, h2, h3, h4⟩
  · exact .inl h1
  · exact .inr ⟨g, cap, cur, rfl, h2, heap_set_other h3 (hc g rfl) x, h4⟩
theorem row_shape {w : World} {base : Nat} {e : TypeId} {size : Nat} {v : Value} {n : Nat} {xs : List Value} (h : w.ownsRow base e size v n xs) : ∃ a cap, v = .slice a n cap := by
  rcases h.2 with ⟨rfl, h0⟩ | ⟨g, cap, cur, rfl, _⟩
  · exact ⟨none, 0, by rw [h0]⟩
  · exact ⟨_, _, rfl⟩
theorem flat_at {T : Type} {C : T → List Value} {k : Nat} (hC : ∀ x, (C x).length = k) : ∀ (l : List T) (j : Nat) (hj : j < l.length) (i : Nat) (_ : i < k), (l.flatMap C)[j * k + i]? = (C l[j])[i]?
  | x :: l, 0, _, i, hi => by
    rw [List.flatMap_cons, Nat.zero_mul, Nat.zero_add, List.getElem?_append_left (by rw [hC]; exact hi)]
    rfl
  | x :: l, j + 1, hj, i, hi => by
    rw [List.flatMap_cons, List.getElem?_append_right (by rw [hC, Nat.succ_mul]; omega), hC, show (j + 1) * k + i - k = j * k + i by rw [Nat.succ_mul]; omega]
    exact flat_at hC l j (by simpa using hj) i hi
/-- a row of the call's own, as a list of things -/
theorem lst_of_owns {T : Type} {C : T → List Value} {k base : Nat} {e : TypeId} {W : World} {v : Value} {l : List T} (hC : ∀ x, (C x).length = k) (_ : 0 < k) (h : W.ownsRow base e k v l.length (l.flatMap C)) : LstAt C k W v l := by
  rcases h.2 with ⟨rfl, h0⟩ | ⟨g, cap, cur, rfl, h2, h3, h4, h5, h6, h7⟩
  · exact ⟨none, 0, by rw [h0], fun hne => absurd (List.eq_nil_of_length_eq_zero h0) hne⟩
  · refine ⟨_, cap, rfl, fun _ => ⟨g, 0, rfl, lt_of_heap h3, fun j hj i hi => ?_⟩⟩
    have hlt : j * k + i < l.length * k := by
      have : (j + 1) * k ≤ l.length * k := Nat.mul_le_mul_right _ hj
      rw [Nat.succ_mul] at this; omega
    rw [Nat.zero_add, h.cellAt (j * k + i) hlt]
    exact flat_at hC l j hj i hi
theorem numR_upto (r : Rd) (m : Int) (hm : 0 ≤ m) : ((numR r m).1 : Int) ≤ m := by
  by_cases h : (numR r m).2.err = 0
  · exact numR_le r m h
  · rw [numR_zero r m h]; exact hm
theorem textR_upto (r : Rd) (m : Int) : (textR r m).1.length ≤ 65536 := by
  have h := numR_low r m
  unfold textR bytesR
  split
  · split
    · rw [List.length_take]; omega
    · simp
  · simp
theorem entRd_rest (r : Rd) : (entRd 65535 r).2.rest.length ≤ r.rest.length := Nat.le_trans (numR_rest _ _) (textR_rest _ _)
theorem entRd_name (r : Rd) : (entRd 65535 r).1.name.size ≤ 65536 := by
  show (bs (textR r 16).1).size ≤ 65536
  rw [bs_size]; exact textR_upto r 16
theorem readN_stop {T : Type} {f : Rd → T × Rd} {N j : Nat} {rk : Rd} {acc : List T} (hj : j ≤ N) : (rk.err = 0 ∧ j < N) ∨ (readN f (N - j) rk acc = (acc, rk) ∧ (rk.err ≠ 0 ∨ (rk.err = 0 ∧ j = N))) := by
  by_cases he : rk.err = 0
  · by_cases h : j < N
    · exact .inl ⟨he, h⟩
    · exact .inr ⟨by rw [show N - j = 0 by omega]; rfl, .inr ⟨he, by omega⟩⟩
  · refine .inr ⟨?_, .inl he⟩
    cases N - j with
    | zero => rfl
    | succ m => rw [readN, if_neg he]
theorem readN_step {T : Type} (f : Rd → T × Rd) {N j : Nat} {rk : Rd} (he : rk.err = 0) (hj : j < N) (acc : List T) : readN f (N - j) rk acc = readN f (N - (j + 1)) (f rk).2 (acc ++ [(f rk).1]) := by
  rw [show N - j = (N - (j + 1)) + 1 by omega, readN, if_pos he]
/-- what a reading of bytes answers -/
def Parsed {T : Type} (K : Kd T) (C : T → List Value) (k : Nat) (te : TypeId) (s : List UInt8) (w : World) (e : Ending) (w' : World) : Prop :=
  ((∃ l v, IsL K s l ∧ e = .returned (.tuple #[v, .int .i64 0]) ∧ w'.ownsRow w.heap.size te k v l.length (l.flatMap C)) ∨ ((∀ l, ¬ IsL K s l) ∧ e = .returned (.tuple #[.slice none 0 0, .int .i64 120]))) ∧ Below w.heap.size w w'
theorem Parsed.down {T : Type} {K : Kd T} {C : T → List Value} {k : Nat} {te : TypeId} {s : List UInt8} {w w1 w' : World} {e : Ending} (h : Parsed K C k te s w1 e w') (hB : Below w.heap.size w w1) : Parsed K C k te s w e w' := by
  obtain ⟨h1, h2⟩ := h
  refine ⟨?_, hB.trans (h2.mono hB.size)⟩
  rcases h1 with ⟨l, v, a, b, c⟩ | h1
  · exact .inl ⟨l, v, a, b, Joins.ownsRow_le c hB.size⟩
  · exact .inr h1
theorem Moved.below1 {b B : Nat} {o : Obj} {w v u : World} (h : Moved b o w v) (hb : B ≤ b) (hB : B ≤ w.heap.size) (k : Below v.heap.size v u) : Below B w u :=
  (h.below hb hB).trans (k.mono (Nat.le_trans hB h.size))
theorem infoEnt : (Tryz.prog.info? 88).map (fun i => (i.zero, i.size, i.bytes)) = some (some (.agg #[.string ⟨#[]⟩, .int .i64 0]), 2, 24) := by kernel_rfl
theorem entC_len (x : Ent) : (entC x).length = 2 := rfl
set_option maxRecDepth 100000 in
set_option maxHeartbeats 4000000 in
theorem entParse_any (s : ByteArray) (hs : s.size ≤ 281474976710656) (w : World) (hg : GE w) :
    Calls Tryz.prog 147 #[tblEnt, .string s] w fun e w' => Parsed kE entC 2 88 s.data.toList w e w' := by
  obtain ⟨pn, hpn⟩ : ∃ pn, numR ⟨s.data.toList, 0⟩ 4096 = pn := ⟨_, rfl⟩
  have hn4 : pn.1 ≤ 4096 := by have := numR_upto ⟨s.data.toList, 0⟩ 4096 (by omega); rw [hpn] at this; omega
  have hpr : pn.2.rest.length ≤ 281474976710656 := by rw [← hpn]; exact Nat.le_trans (numR_rest _ _) (by rw [len_of]; exact hs)
  obtain ⟨P, hP⟩ : ∃ P, parsed (entRd 65535) s.data.toList = P := ⟨_, rfl⟩
  have HP := Lib.hid (show readN (entRd 65535) pn.1 pn.2 [] = P by rw [← hP, ← hpn]; rfl)
  have HD := Lib.hid (show endR P.2 = 0 → May kE P.1 → IsL kE s.data.toList P.1 by rw [← hP]; exact isL_self (readsE (by omega)))
  have HND := Lib.hid (show ¬ (endR P.2 = 0 ∧ May kE P.1) → ∀ l, ¬ IsL kE s.data.toList l by rw [← hP]; exact isL_none (readsE (by omega)))
  clear hP
  obtain ⟨w0, hw0⟩ : ∃ w0, w.alloc tblOEnt = w0 := ⟨_, rfl⟩
  have HB0 := Lib.hid (show Below w.heap.size w w0 by rw [← hw0]; exact (Below.refl _ w).alloc (Nat.le_refl _) _)
  have HO := Lib.hid (show w0.heap[w.heap.size]? = some tblOEnt by rw [← hw0]; exact heap_alloc_new w _)
  have hgl := hg.lt
  have hg0 := hg.below HB0.out
  unfold tblOEnt at hw0
  unfold tblEnt
  have C0 := rnew_any s w0
  go_enter Tryz.func147, Tryz.ntmps147
  go_wp2_with fail
  refine C0.mono ?_
  rintro e w2 ⟨b, rfl, hb1, hb2, hB2⟩
  have hb : w2.heap[b]? = some (RO ⟨s.data.toList, 0⟩) := hb2
  have hbl := lt_of_heap hb
  have hww0 : w.heap.size < w0.heap.size := lt_of_heap HO.out
  have hwb : w.heap.size ≠ b := by omega
  have hwb1 : w.heap.size ≤ b := by omega
  have hgb : 1 ≠ b := by omega
  have hb0 : b ≠ 1 := fun e => hgb e.symm
  have hg2 : GE w2 := hg0.below hB2
  have HO2 := Lib.hid ((hB2.block _ hww0).trans HO.out)
  have HB2 := Lib.hid (HB0.out.trans (hB2.mono HB0.out.size))
  have C1 := qnum_any b hb0 ⟨s.data.toList, 0⟩ 4096 (by rw [len_of]; exact hs) w2 hg2 hb
  rw [hpn] at C1
  obtain ⟨N, r0⟩ := pn
  simp only at hn4 hpr C1
  have hw2 : w.heap.size < w2.heap.size := Nat.lt_of_lt_of_le hww0 hB2.size
  clear hb2 hB2 C0 hpn hw0 hb1 hg0 hww0
  go_wp2_with fail
  refine C1.mono ?_
  rintro e w3 ⟨rfl, hM3⟩
  have HM3 := Lib.hid hM3
  clear hM3 C1 hb
  unfold numV
  obtain ⟨i0, hi, hz0, hz1, hz2⟩ := info_parts infoEnt
  go_wp2_with fail
  go_loopw [8, 9] (fun x v wr => ∃ (j : Nat) (acc : List Ent) (rk : Rd), j ≤ N ∧ acc.length = j ∧ x = .int .i64 rk.err ∧ rk.rest.length ≤ 281474976710656 ∧ readN (entRd 65535) (N - j) rk acc = P ∧ wr.ownsRow w2.heap.size 88 2 v j (acc.flatMap entC) ∧ Moved b (RO rk) w2 wr ∧ ∀ q ∈ acc, q.name.size ≤ 65536) (fun _ v _ => N - (lenOf v))
  case atStart => exact ⟨0, [], r0, Nat.zero_le _, rfl, rfl, hpr, HP.out, World.ownsRow_nil _ _ _ _, HM3.out, fun q hq => absurd hq (by simp)⟩
  case round =>
    obtain ⟨j, acc, rk, hj, hacc, rfl, hrk, hread, hrow, hM, hsm⟩ := hrel
    have HACC := Lib.hid hacc
    have HRD := Lib.hid hread
    have HRW := Lib.hid hrow
    have HM := Lib.hid hM
    have HSM := Lib.hid hsm
    obtain ⟨av, cv, rfl⟩ := row_shape hrow
    clear hacc hread hrow hM HM3 HP hsm
    have hstop : (rk.err = 0 ∧ j < N) ∨ (readN (entRd 65535) (N - j) rk acc = (acc, rk) ∧ (rk.err ≠ 0 ∨ (rk.err = 0 ∧ j = N))) := readN_stop hj
    rcases hstop with ⟨he, hlt⟩ | ⟨hstop, hwhy⟩
    · have hji : (j : Int) < (N : Int) := by omega
      have HST := Lib.hid (readN_step (entRd 65535) he hlt acc)
      have hwr := HM.out.size
      have hrest := entRd_rest rk
      have HNS := Lib.hid (entRd_name rk)
      have C1 := fun w => entRd_any b hb0 rk hrk w
      obtain ⟨q, hq⟩ : ∃ q, entRd 65535 rk = q := ⟨_, rfl⟩
      rw [hq] at C1 hrest HST HNS
      obtain ⟨y, r1⟩ := q
      simp only at C1 hrest HST HNS
      have hr1 : r1.rest.length ≤ 281474976710656 := Nat.le_trans hrest hrk
      clear hq hrest
      unfold entV at C1
      obtain ⟨u0, hu0⟩ : ∃ u, wr.alloc (.cells #[.string ⟨#[]⟩, .int .i64 0] 88) = u := ⟨_, rfl⟩
      have HX0 := Lib.hid (show u0.heap[wr.heap.size]? = some (.cells #[.string ⟨#[]⟩, .int .i64 0] 88 (0, 0)) by rw [← hu0]; exact heap_alloc_new wr _)
      have HU0 := Lib.hid (show Below wr.heap.size wr u0 by rw [← hu0]; exact (Below.refl _ wr).alloc (Nat.le_refl _) _)
      have HMU := Lib.hid (HM.out.and HU0.out)
      have hfn : u0.cell? ⟨w.heap.size, 1, none⟩ = some (.func (.func 129) #[] #[]) := by have e := HMU.out.other HO2.out hwb; simp [World.cell?, e, tblOEnt]
      rw [he]
      go_wp2_with fail
      refine (C1 _ (hg2.moved HMU.out hb0) HMU.out.here).mono ?_
      rintro e w4 ⟨rfl, hM4⟩
      have hBn : wr.heap.size ≠ b := by have := lt_of_heap HM.out.here; omega
      have hx := hM4.other HX0.out hBn
      have hM5 := HMU.out.trans hM4
      have z0 : w4.cell? ⟨wr.heap.size, 0, none⟩ = some (.string ⟨#[]⟩) := by simp [World.cell?, hx]
      have z1 : w4.cell? ⟨wr.heap.size, 1, none⟩ = some (.int .i64 0) := by simp [World.cell?, hx]
      have f0 : w4.frozen? ⟨wr.heap.size, 0, none⟩ = false := by simp [World.frozen?, hx]
      have f1 : w4.frozen? ⟨wr.heap.size, 1, none⟩ = false := by simp [World.frozen?, hx]
      obtain ⟨u1, hu1⟩ : ∃ u, ((w4.setCell ⟨wr.heap.size, 0, none⟩ (.string y.name)).setCell ⟨wr.heap.size, 1, none⟩ (.int .i64 y.num)) = u := ⟨_, rfl⟩
      have HX := Lib.hid (show u1.heap[wr.heap.size]? = some (.cells #[.string y.name, .int .i64 y.num] 88 (0, 0)) by rw [← hu1]; exact (heap_set (heap_set hx (i := 0) (.string y.name)) (i := 1) (.int .i64 y.num)))
      have HM6 := Lib.hid (show Moved b (RO r1) w2 u1 by rw [← hu1]; exact ((hM5.setNew hwr hbl (i := 0) (.string y.name)).setNew hwr hbl (i := 1) (.int .i64 y.num)))
      have hx1 := HX.out
      have d0 : u1.cell? ⟨wr.heap.size, 0, none⟩ = some (.string y.name) := by simp [World.cell?, hx1]
      have d1 : u1.cell? ⟨wr.heap.size, 1, none⟩ = some (.int .i64 y.num) := by simp [World.cell?, hx1]
      have hrow4 : w4.ownsRow w2.heap.size 88 2 (.slice av j cv) j (acc.flatMap entC) := owns_moved' (owns_later HRW.out HU0.out) hM4 hbl
      have hrow2 : u1.ownsRow w2.heap.size 88 2 (.slice av j cv) j (acc.flatMap entC) := by
        rw [← hu1]
        have hne : ∀ g, Value.ownBlock (.slice av j cv) = some g → g ≠ wr.heap.size := fun g hg2 => by have := (HRW.out.lt g hg2).2; omega
        exact (owns_set (owns_set hrow4 hne (i := 0) (.string y.name)) hne (i := 1) (.int .i64 y.num))
      have hsz : w2.heap.size ≤ u1.heap.size := HM6.out.size
      clear hx hx1 hM4 hM5 hrow4 C1
      go_wp2_with (at_builtin; refine wpList_append_own _ rfl _ _ 85 rfl w2.heap.size 88 i0 (.agg #[.string ⟨#[]⟩, .int .i64 0]) 2 24 Tryz.underlying85 hi hz0 hz1 hz2 rfl (by decide) _ _ _ rfl (hrow2.alloc _) ⟨u1.heap.size, 0, none⟩ 1 1 [.string y.name, .int .i64 y.num] rfl rfl (cells_new u1 [.string y.name, .int .i64 y.num] _) (by simp [Value.oneCell']) (by unfold maxLen; omega) (by omega) (by simp; omega) ?_; intro v' w5 hown' hgrow _; have hB4 : Below w2.heap.size u1 w5 := ((Below.refl _ u1).alloc hsz _).grown hgrow (by simp; omega) (fun j ej => (hrow2.lt j ej).1); have HM7 := Lib.hid (HM6.out.andB hbl hB4); have HO4 := Lib.hid hown'; obtain ⟨av2, cv2, rfl⟩ := row_shape hown'; clear hown' hgrow hB4)
      go_roundw
      case rel => exact ⟨j + 1, acc ++ [y], r1, by omega, by simp [HACC.out], rfl, hr1, by rw [← HST.out]; exact HRD.out, by rw [List.flatMap_append, List.flatMap_singleton]; exact HO4.out, HM7.out, fun q hq => (List.mem_append.1 hq).elim (fun h => HSM.out q h) (fun h => by rw [List.mem_singleton.1 h]; exact HNS.out)⟩
      case measure => simp [lenOf]; omega
    · have HPE := Lib.hid (show (acc, rk) = P from hstop.symm.trans HRD.out)
      have hg3 := hg2.moved HM.out hb0
      have C3 := qend_any b rk wr hg3 HM.out.here
      have C4 := fun w' (hB : Below wr.heap.size wr w') => entMay_any (.slice av j cv) acc (by rw [HACC.out]; omega) (fun q hq => Nat.le_trans (HSM.out q hq) (by decide)) w' ((lst_of_owns entC_len (by decide) (by rw [HACC.out]; exact HRW.out)).later hB)
      have hc0 : ∀ W, Below wr.heap.size wr W → W.cell? ⟨w.heap.size, 0, none⟩ = some (.func (.func 127) #[] #[]) ∧ W.cell? ⟨w.heap.size, 1, none⟩ = some (.func (.func 129) #[] #[]) ∧ W.cell? ⟨w.heap.size, 2, none⟩ = some (.func (.func 132) #[] #[]) ∧ W.cell? ⟨w.heap.size, 3, none⟩ = some (.func (.func 134) #[] #[]) := fun W hW => by
        have e := (hW.block _ (Nat.lt_of_lt_of_le hw2 HM.out.size)).trans (HM.out.other HO2.out hwb)
        exact ⟨by simp [World.cell?, e, tblOEnt], by simp [World.cell?, e, tblOEnt], by simp [World.cell?, e, tblOEnt], by simp [World.cell?, e, tblOEnt]⟩
      have HC0 := Lib.hid hc0
      clear hc0 hstop
      have HY := Lib.hid (show endR rk = 0 → mayB kE acc = true → IsL kE s.data.toList acc from fun h1 h2 => by have := HD.out; rw [← HPE.out] at this; exact this h1 (mayB_iff.1 h2))
      have HN1 := Lib.hid (show endR rk ≠ 0 → ∀ l, ¬ IsL kE s.data.toList l from fun h1 => by have := HND.out; rw [← HPE.out] at this; exact this fun e => h1 e.1)
      have HN2 := Lib.hid (show mayB kE acc = false → ∀ l, ¬ IsL kE s.data.toList l from fun h1 => by have := HND.out; rw [← HPE.out] at this; exact this fun e => absurd (mayB_iff.2 e.2) (by rw [h1]; decide))
      unfold tblEnt at C4
      generalize endR rk = E at *
      generalize mayB kE acc = p at *
      have hout : rk.err ≠ 0 ∨ (rk.err = 0 ∧ j = N) := hwhy
      clear hwhy
      have hbb : w.heap.size ≤ b := hwb1
      have hww : w.heap.size ≤ w2.heap.size := by omega
      rcases hout with he | ⟨he, hjN⟩
      · have he1 : (rk.err == 0) = false := by simpa using he
        by_cases hE : E = 0
        · subst hE
          go_wp2_with fail
          refine C3.mono ?_
          rintro e w5 ⟨rfl, hB5⟩
          obtain ⟨t0, t1, t2, t3⟩ := HC0.out w5 hB5
          have C5 := C4 w5 hB5
          have HB5 := Lib.hid hB5
          clear C4 hB5
          cases p with
          | false =>
            go_wp2_with fail
            refine C5.mono ?_
            rintro e w6 ⟨rfl, hB6⟩
            go_wp2_with fail
            go_ret2
            exact ⟨.inr ⟨HN2.out (by trivial), rfl⟩, HB2.out.trans ((HM.out.below1 hbb hww (HB5.out.trans (hB6.mono HB5.out.size))))⟩
          | true =>
            go_wp2_with fail
            refine C5.mono ?_
            rintro e w6 ⟨rfl, hB6⟩
            go_wp2_with fail
            go_ret2
            exact ⟨.inl ⟨acc, _, HY.out (by trivial) (by trivial), rfl, by rw [HACC.out]; exact owns_later (owns_later (Joins.ownsRow_le HRW.out (by omega)) HB5.out) hB6⟩, HB2.out.trans ((HM.out.below1 hbb hww (HB5.out.trans (hB6.mono HB5.out.size))))⟩
        · have hne : (E != 0) = true := by simpa using hE
          go_wp2_with fail
          refine C3.mono ?_
          rintro e w5 ⟨rfl, hB5⟩
          have HB5 := Lib.hid hB5
          clear C4 hB5
          go_wp2_with fail
          go_ret2
          exact ⟨.inr ⟨HN1.out hE, rfl⟩, HB2.out.trans (HM.out.below1 hbb hww HB5.out)⟩
      · rw [he] at *
        subst hjN
        by_cases hE : E = 0
        · subst hE
          go_wp2_with fail
          refine C3.mono ?_
          rintro e w5 ⟨rfl, hB5⟩
          obtain ⟨t0, t1, t2, t3⟩ := HC0.out w5 hB5
          have C5 := C4 w5 hB5
          have HB5 := Lib.hid hB5
          clear C4 hB5
          cases p with
          | false =>
            go_wp2_with fail
            refine C5.mono ?_
            rintro e w6 ⟨rfl, hB6⟩
            go_wp2_with fail
            go_ret2
            exact ⟨.inr ⟨HN2.out (by trivial), rfl⟩, HB2.out.trans ((HM.out.below1 hbb hww (HB5.out.trans (hB6.mono HB5.out.size))))⟩
          | true =>
            go_wp2_with fail
            refine C5.mono ?_
            rintro e w6 ⟨rfl, hB6⟩
            go_wp2_with fail
            go_ret2
            exact ⟨.inl ⟨acc, _, HY.out (by trivial) (by trivial), rfl, by rw [HACC.out]; exact owns_later (owns_later (Joins.ownsRow_le HRW.out (by omega)) HB5.out) hB6⟩, HB2.out.trans ((HM.out.below1 hbb hww (HB5.out.trans (hB6.mono HB5.out.size))))⟩
        · have hne : (E != 0) = true := by simpa using hE
          go_wp2_with fail
          refine C3.mono ?_
          rintro e w5 ⟨rfl, hB5⟩
          have HB5 := Lib.hid hB5
          clear C4 hB5
          go_wp2_with fail
          go_ret2
          exact ⟨.inr ⟨HN1.out hE, rfl⟩, HB2.out.trans (HM.out.below1 hbb hww HB5.out)⟩
theorem entParses_any (s : ByteArray) (hs : s.size ≤ 281474976710656) (w : World) (hg : GE w) :
    Calls Tryz.prog 103 #[.string s] w fun e w' => Parsed kE entC 2 88 s.data.toList w e w' := by
  have C1 := entT_any w
  have C2 := fun w' hg => entParse_any s hs w' hg
  go_enter Tryz.func103, Tryz.ntmps103
  go_wp2_with fail
  refine C1.mono ?_
  rintro e w1 ⟨rfl, hB1⟩
  go_wp2_with fail
  refine (C2 _ (hg.below hB1)).mono ?_
  rintro e w2 h2
  have h3 := h2.down hB1
  clear h2
  rcases h3 with ⟨⟨l, v, hl, rfl, hrow⟩ | ⟨hno, rfl⟩, hB⟩
  · go_wp2_with fail
    go_ret2
    exact ⟨.inl ⟨l, v, hl, rfl, hrow⟩, hB⟩
  · go_wp2_with fail
    go_ret2
    exact ⟨.inr ⟨hno, rfl⟩, hB⟩
end Go.Proofs.YtfokdmijkniomaaGreatDoor.WT

