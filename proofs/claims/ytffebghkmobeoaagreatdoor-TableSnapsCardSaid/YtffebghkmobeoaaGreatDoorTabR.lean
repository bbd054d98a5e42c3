/-
  How package tables reads a blob, and each kind of things.
-/
import Derived.Test.YtffebghkmobeoaaGreatDoorTabA
import Derived.Test.YtffebghkmobeoaaGreatDoorWirF
import Derived.Laws.ResultCell
namespace Go.Proofs.YtffebghkmobeoaaGreatDoor
open Go.RowKit Go

theorem Moved.setNew {b c i : Nat} {o : Obj} {w v : World} (h : Moved b o w v) (hc : w.heap.size ≤ c) (hb : b < w.heap.size) (x : Value) : Moved b o w (v.setCell ⟨c, i, none⟩ x) := by
  have hn : b ≠ c := by omega
  refine ⟨h.os, h.tape, h.output, by simpa [World.setCell] using h.size, ?_, fun k hk hn => ?_⟩
  · rw [Below.heap_setCell _ _ _ _ hn]; exact h.here
  · have hkc : k ≠ c := by omega
    rw [Below.heap_setCell _ _ _ _ hkc]; exact h.block k hk hn
/-- what an allocation leaves -/
theorem Moved.made {b : Nat} {o : Obj} {w : World} (h : w.heap[b]? = some o) (x : Obj) : Moved b o w (w.alloc x) := (Moved.refl h).and ((Below.refl _ w).alloc (Nat.le_refl _) x)
def blobRd (c d : Int) (r : Rd) : (Nat × Nat) × Rd := (((numR r c).1, (numR (numR r c).2 d).1), (numR (numR r c).2 d).2)
theorem blobRd_rest (c d : Int) (r : Rd) : (blobRd c d r).2.rest.length ≤ r.rest.length := Nat.le_trans (numR_rest _ _) (numR_rest _ _)
theorem inoRd_blob (a b c d : Int) (r : Rd) : inoRd a b c d r = (⟨(numR r a).1, ((numR (numR r a).2 1).1 : Int) == 1, (numR (numR (numR r a).2 1).2 b).1, (blobRd c d (numR (numR (numR r a).2 1).2 b).2).1.1, (blobRd c d (numR (numR (numR r a).2 1).2 b).2).1.2⟩, (blobRd c d (numR (numR (numR r a).2 1).2 b).2).2) := by
  have e : ∀ n : Nat, ((n : Int) == 1) = (n == 1) := fun n => by
    rw [Bool.eq_iff_iff]; simp; omega
  rw [e]; rfl
theorem snpRd_blob (a b c d : Int) (r : Rd) : snpRd a b c d r = (⟨bs (textR r 16).1, (numR (textR r 16).2 a).1, (numR (numR (textR r 16).2 a).2 b).1, (blobRd c d (numR (numR (textR r 16).2 a).2 b).2).1.1, (blobRd c d (numR (numR (textR r 16).2 a).2 b).2).1.2⟩, (blobRd c d (numR (numR (textR r 16).2 a).2 b).2).2) := rfl
set_option maxRecDepth 100000 in
set_option maxHeartbeats 4000000 in
theorem blob_any (b : Nat) (hb0 : b ≠ 0) (r : Rd) (hs : r.rest.length ≤ 281474976710656) (w : World) (hg : GE w) (hb : w.heap[b]? = some (RO r)) :
    Calls Tryz.prog 34 #[.pointer (some ⟨b, 0, none⟩)] w fun v w' => v = .returned (.tuple #[blobV (blobRd 4095 16384 r).1.1 (blobRd 4095 16384 r).1.2, .int .i64 (blobRd 4095 16384 r).2.err]) ∧ Moved b (RO (blobRd 4095 16384 r).2) w w' := by
  have hbl := lt_of_heap hb
  have hB : w.heap.size ≠ b := by omega
  have hBl : w.heap.size ≤ w.heap.size := Nat.le_refl _
  obtain ⟨w0, hw0⟩ : ∃ w0, w.alloc (.cells #[.int .i64 0, .int .i64 0] 33) = w0 := ⟨_, rfl⟩
  have HM0 := Lib.hid (show Moved b (RO r) w w0 by rw [← hw0]; exact Moved.made hb _)
  have HX0 := Lib.hid (show w0.heap[w.heap.size]? = some (.cells #[.int .i64 0, .int .i64 0] 33) by rw [← hw0]; exact heap_alloc_new w _)
  obtain ⟨q, hq⟩ : ∃ q, (blobRd 4095 16384 r) = q := ⟨_, rfl⟩
  rw [hq]
  unfold blobRd at hq
  try simp only at hq
  have C1 := fun w => qnum_any b hb0 r 4095 hs w
  have l1 : (numR r 4095).2.rest.length ≤ 281474976710656 := Nat.le_trans (numR_rest _ _) hs
  generalize numR r 4095 = p1 at *
  obtain ⟨n1, r1⟩ := p1
  simp only at C1 l1 hq
  have C2 := fun w => qnum_any b hb0 r1 16384 l1 w
  have l2 : (numR r1 16384).2.rest.length ≤ 281474976710656 := Nat.le_trans (numR_rest _ _) l1
  generalize numR r1 16384 = p2 at *
  obtain ⟨n2, r2⟩ := p2
  simp only at C2 l2 hq
  have HQ := Lib.hid hq
  clear hq
  go_enter Tryz.func34, Tryz.ntmps34
  go_wp2_with fail
  refine (C1 _ (hg.moved HM0.out hb0) HM0.out.here).mono ?_
  rintro e v1 ⟨rfl, hM⟩
  have hx := hM.other HX0.out hB
  have hM := HM0.out.trans hM
  clear C1
  unfold numV
  have c1_0 : v1.cell? ⟨w.heap.size, 0, none⟩ = some (.int .i64 0) := by simp [World.cell?, hx]
  have f1 : ∀ i, v1.frozen? ⟨w.heap.size, i, none⟩ = false := fun i => by simp [World.frozen?, hx]
  have f1a := f1 0
  clear f1
  obtain ⟨u1, hu1⟩ : ∃ u, (v1.setCell ⟨w.heap.size, 0, none⟩ (.int .i64 (n1 : Nat))) = u := ⟨_, rfl⟩
  have HM1 := Lib.hid (show Moved b (RO r1) w u1 by rw [← hu1]; exact (hM.setNew hBl hbl (i := 0) (.int .i64 (n1 : Nat))))
  have HX1 := Lib.hid (show u1.heap[w.heap.size]? = some (.cells #[.int .i64 (n1 : Nat), .int .i64 0] 33) by rw [← hu1]; exact (heap_set hx (i := 0) (.int .i64 (n1 : Nat))))
  clear hM hx
  go_wp2_with fail
  refine (C2 _ (hg.moved HM1.out hb0) HM1.out.here).mono ?_
  rintro e v2 ⟨rfl, hM⟩
  have hx := hM.other HX1.out hB
  have hM := HM1.out.trans hM
  clear C2
  unfold numV
  have c2_1 : v2.cell? ⟨w.heap.size, 1, none⟩ = some (.int .i64 0) := by simp [World.cell?, hx]
  have f2 : ∀ i, v2.frozen? ⟨w.heap.size, i, none⟩ = false := fun i => by simp [World.frozen?, hx]
  have f2a := f2 1
  clear f2
  obtain ⟨u2, hu2⟩ : ∃ u, (v2.setCell ⟨w.heap.size, 1, none⟩ (.int .i64 (n2 : Nat))) = u := ⟨_, rfl⟩
  have HM2 := Lib.hid (show Moved b (RO r2) w u2 by rw [← hu2]; exact (hM.setNew hBl hbl (i := 1) (.int .i64 (n2 : Nat))))
  have HX2 := Lib.hid (show u2.heap[w.heap.size]? = some (.cells #[.int .i64 (n1 : Nat), .int .i64 (n2 : Nat)] 33) by rw [← hu2]; exact (heap_set hx (i := 1) (.int .i64 (n2 : Nat))))
  clear hM hx
  have hx := HX2.out
  have d0 : u2.cell? ⟨w.heap.size, 0, none⟩ = some (.int .i64 (n1 : Nat)) := by simp [World.cell?, hx]
  have d1 : u2.cell? ⟨w.heap.size, 1, none⟩ = some (.int .i64 (n2 : Nat)) := by simp [World.cell?, hx]
  have e0 : u2.frozen? ⟨w.heap.size, 0, none⟩ = false := by simp [World.frozen?, hx]
  have e1 : u2.frozen? ⟨w.heap.size, 1, none⟩ = false := by simp [World.frozen?, hx]
  obtain ⟨wz, hwz⟩ : ∃ u, ((u2.setCell ⟨w.heap.size, 0, none⟩ (.int .i64 (n1 : Nat))).setCell ⟨w.heap.size, 1, none⟩ (.int .i64 (n2 : Nat))) = u := ⟨_, rfl⟩
  have HE := Lib.hid (show Moved b (RO r2) w wz by rw [← hwz]; exact ((HM2.out.setNew hBl hbl (i := 0) (.int .i64 (n1 : Nat))).setNew hBl hbl (i := 1) (.int .i64 (n2 : Nat))))
  have hz : wz.heap[w.heap.size]? = some (.cells #[.int .i64 (n1 : Nat), .int .i64 (n2 : Nat)] 33 (0, 0)) := by rw [← hwz]; exact (heap_set (heap_set HX2.out (i := 0) (.int .i64 (n1 : Nat))) (i := 1) (.int .i64 (n2 : Nat)))
  have z0 : wz.cell? ⟨w.heap.size, 0, none⟩ = some (.int .i64 (n1 : Nat)) := by simp [World.cell?, hz]
  have z1 : wz.cell? ⟨w.heap.size, 1, none⟩ = some (.int .i64 (n2 : Nat)) := by simp [World.cell?, hz]
  clear hx hz
  go_wp2_with fail
  rw [← HQ.out]
  refine bodyPost_ret ?_ rfl ⟨rfl, HE.out⟩
  rw [results_cell_tmp rfl]
  go_simp
  try rfl
set_option maxRecDepth 100000 in
set_option maxHeartbeats 4000000 in
theorem inoRd_any (b : Nat) (hb0 : b ≠ 0) (r : Rd) (hs : r.rest.length ≤ 281474976710656) (w : World) (hg : GE w) (hb : w.heap[b]? = some (RO r)) :
    Calls Tryz.prog 66 #[.pointer (some ⟨b, 0, none⟩)] w fun v w' => v = .returned (.tuple #[inoV (inoRd 65535 65535 4095 16384 r).1, .int .i64 (inoRd 65535 65535 4095 16384 r).2.err]) ∧ Moved b (RO (inoRd 65535 65535 4095 16384 r).2) w w' := by
  have hbl := lt_of_heap hb
  have hB : w.heap.size ≠ b := by omega
  have hBl : w.heap.size ≤ w.heap.size := Nat.le_refl _
  obtain ⟨w0, hw0⟩ : ∃ w0, w.alloc (.cells #[.int .i64 0, .bool false, .int .i64 0, .int .i64 0, .int .i64 0] 64) = w0 := ⟨_, rfl⟩
  have HM0 := Lib.hid (show Moved b (RO r) w w0 by rw [← hw0]; exact Moved.made hb _)
  have HX0 := Lib.hid (show w0.heap[w.heap.size]? = some (.cells #[.int .i64 0, .bool false, .int .i64 0, .int .i64 0, .int .i64 0] 64) by rw [← hw0]; exact heap_alloc_new w _)
  obtain ⟨q, hq⟩ : ∃ q, (inoRd 65535 65535 4095 16384 r) = q := ⟨_, rfl⟩
  rw [hq]
  rw [inoRd_blob] at hq
  try simp only at hq
  have C1 := fun w => qnum_any b hb0 r 65535 hs w
  have l1 : (numR r 65535).2.rest.length ≤ 281474976710656 := Nat.le_trans (numR_rest _ _) hs
  generalize numR r 65535 = p1 at *
  obtain ⟨n1, r1⟩ := p1
  simp only at C1 l1 hq
  have C2 := fun w => qnum_any b hb0 r1 1 l1 w
  have l2 : (numR r1 1).2.rest.length ≤ 281474976710656 := Nat.le_trans (numR_rest _ _) l1
  generalize numR r1 1 = p2 at *
  obtain ⟨n2, r2⟩ := p2
  simp only at C2 l2 hq
  have C3 := fun w => qnum_any b hb0 r2 65535 l2 w
  have l3 : (numR r2 65535).2.rest.length ≤ 281474976710656 := Nat.le_trans (numR_rest _ _) l2
  generalize numR r2 65535 = p3 at *
  obtain ⟨n3, r3⟩ := p3
  simp only at C3 l3 hq
  have C4 := fun w => blob_any b hb0 r3 l3 w
  have l4 : (blobRd 4095 16384 r3).2.rest.length ≤ 281474976710656 := Nat.le_trans (blobRd_rest _ _ _) l3
  generalize blobRd 4095 16384 r3 = p4 at *
  obtain ⟨n4, r4⟩ := p4
  simp only at C4 l4 hq
  have HQ := Lib.hid hq
  clear hq
  go_enter Tryz.func66, Tryz.ntmps66
  go_wp2_with fail
  refine (C1 _ (hg.moved HM0.out hb0) HM0.out.here).mono ?_
  rintro e v1 ⟨rfl, hM⟩
  have hx := hM.other HX0.out hB
  have hM := HM0.out.trans hM
  clear C1
  unfold numV
  have c1_0 : v1.cell? ⟨w.heap.size, 0, none⟩ = some (.int .i64 0) := by simp [World.cell?, hx]
  have f1 : ∀ i, v1.frozen? ⟨w.heap.size, i, none⟩ = false := fun i => by simp [World.frozen?, hx]
  have f1a := f1 0
  clear f1
  obtain ⟨u1, hu1⟩ : ∃ u, (v1.setCell ⟨w.heap.size, 0, none⟩ (.int .i64 (n1 : Nat))) = u := ⟨_, rfl⟩
  have HM1 := Lib.hid (show Moved b (RO r1) w u1 by rw [← hu1]; exact (hM.setNew hBl hbl (i := 0) (.int .i64 (n1 : Nat))))
  have HX1 := Lib.hid (show u1.heap[w.heap.size]? = some (.cells #[.int .i64 (n1 : Nat), .bool false, .int .i64 0, .int .i64 0, .int .i64 0] 64) by rw [← hu1]; exact (heap_set hx (i := 0) (.int .i64 (n1 : Nat))))
  clear hM hx
  go_wp2_with fail
  refine (C2 _ (hg.moved HM1.out hb0) HM1.out.here).mono ?_
  rintro e v2 ⟨rfl, hM⟩
  have hx := hM.other HX1.out hB
  have hM := HM1.out.trans hM
  clear C2
  unfold numV
  have c2_1 : v2.cell? ⟨w.heap.size, 1, none⟩ = some (.bool false) := by simp [World.cell?, hx]
  have f2 : ∀ i, v2.frozen? ⟨w.heap.size, i, none⟩ = false := fun i => by simp [World.frozen?, hx]
  have f2a := f2 1
  clear f2
  obtain ⟨u2, hu2⟩ : ∃ u, (v2.setCell ⟨w.heap.size, 1, none⟩ (.bool ((n2 : Int) == 1))) = u := ⟨_, rfl⟩
  have HM2 := Lib.hid (show Moved b (RO r2) w u2 by rw [← hu2]; exact (hM.setNew hBl hbl (i := 1) (.bool ((n2 : Int) == 1))))
  have HX2 := Lib.hid (show u2.heap[w.heap.size]? = some (.cells #[.int .i64 (n1 : Nat), .bool ((n2 : Int) == 1), .int .i64 0, .int .i64 0, .int .i64 0] 64) by rw [← hu2]; exact (heap_set hx (i := 1) (.bool ((n2 : Int) == 1))))
  clear hM hx
  go_wp2_with fail
  refine (C3 _ (hg.moved HM2.out hb0) HM2.out.here).mono ?_
  rintro e v3 ⟨rfl, hM⟩
  have hx := hM.other HX2.out hB
  have hM := HM2.out.trans hM
  clear C3
  unfold numV
  have c3_2 : v3.cell? ⟨w.heap.size, 2, none⟩ = some (.int .i64 0) := by simp [World.cell?, hx]
  have f3 : ∀ i, v3.frozen? ⟨w.heap.size, i, none⟩ = false := fun i => by simp [World.frozen?, hx]
  have f3a := f3 2
  clear f3
  obtain ⟨u3, hu3⟩ : ∃ u, (v3.setCell ⟨w.heap.size, 2, none⟩ (.int .i64 (n3 : Nat))) = u := ⟨_, rfl⟩
  have HM3 := Lib.hid (show Moved b (RO r3) w u3 by rw [← hu3]; exact (hM.setNew hBl hbl (i := 2) (.int .i64 (n3 : Nat))))
  have HX3 := Lib.hid (show u3.heap[w.heap.size]? = some (.cells #[.int .i64 (n1 : Nat), .bool ((n2 : Int) == 1), .int .i64 (n3 : Nat), .int .i64 0, .int .i64 0] 64) by rw [← hu3]; exact (heap_set hx (i := 2) (.int .i64 (n3 : Nat))))
  clear hM hx
  go_wp2_with fail
  refine (C4 _ (hg.moved HM3.out hb0) HM3.out.here).mono ?_
  rintro e v4 ⟨rfl, hM⟩
  have hx := hM.other HX3.out hB
  have hM := HM3.out.trans hM
  clear C4
  unfold blobV
  have c4_3 : v4.cell? ⟨w.heap.size, 3, none⟩ = some (.int .i64 0) := by simp [World.cell?, hx]
  have c4_4 : v4.cell? ⟨w.heap.size, 4, none⟩ = some (.int .i64 0) := by simp [World.cell?, hx]
  have f4 : ∀ i, v4.frozen? ⟨w.heap.size, i, none⟩ = false := fun i => by simp [World.frozen?, hx]
  have f4_3 := f4 3
  have f4_4 := f4 4
  clear f4
  obtain ⟨u4, hu4⟩ : ∃ u, ((v4.setCell ⟨w.heap.size, 3, none⟩ (.int .i64 (n4.1 : Nat))).setCell ⟨w.heap.size, 4, none⟩ (.int .i64 (n4.2 : Nat))) = u := ⟨_, rfl⟩
  have HM4 := Lib.hid (show Moved b (RO r4) w u4 by rw [← hu4]; exact ((hM.setNew hBl hbl (i := 3) (.int .i64 (n4.1 : Nat))).setNew hBl hbl (i := 4) (.int .i64 (n4.2 : Nat))))
  have HX4 := Lib.hid (show u4.heap[w.heap.size]? = some (.cells #[.int .i64 (n1 : Nat), .bool ((n2 : Int) == 1), .int .i64 (n3 : Nat), .int .i64 (n4.1 : Nat), .int .i64 (n4.2 : Nat)] 64) by rw [← hu4]; exact (heap_set (heap_set hx (i := 3) (.int .i64 (n4.1 : Nat))) (i := 4) (.int .i64 (n4.2 : Nat))))
  clear hM hx
  have hx := HX4.out
  have d0 : u4.cell? ⟨w.heap.size, 0, none⟩ = some (.int .i64 (n1 : Nat)) := by simp [World.cell?, hx]
  have d1 : u4.cell? ⟨w.heap.size, 1, none⟩ = some (.bool ((n2 : Int) == 1)) := by simp [World.cell?, hx]
  have d2 : u4.cell? ⟨w.heap.size, 2, none⟩ = some (.int .i64 (n3 : Nat)) := by simp [World.cell?, hx]
  have d3 : u4.cell? ⟨w.heap.size, 3, none⟩ = some (.int .i64 (n4.1 : Nat)) := by simp [World.cell?, hx]
  have d4 : u4.cell? ⟨w.heap.size, 4, none⟩ = some (.int .i64 (n4.2 : Nat)) := by simp [World.cell?, hx]
  have e0 : u4.frozen? ⟨w.heap.size, 0, none⟩ = false := by simp [World.frozen?, hx]
  have e1 : u4.frozen? ⟨w.heap.size, 1, none⟩ = false := by simp [World.frozen?, hx]
  have e2 : u4.frozen? ⟨w.heap.size, 2, none⟩ = false := by simp [World.frozen?, hx]
  have e3 : u4.frozen? ⟨w.heap.size, 3, none⟩ = false := by simp [World.frozen?, hx]
  have e4 : u4.frozen? ⟨w.heap.size, 4, none⟩ = false := by simp [World.frozen?, hx]
  obtain ⟨wz, hwz⟩ : ∃ u, (((((u4.setCell ⟨w.heap.size, 0, none⟩ (.int .i64 (n1 : Nat))).setCell ⟨w.heap.size, 1, none⟩ (.bool ((n2 : Int) == 1))).setCell ⟨w.heap.size, 2, none⟩ (.int .i64 (n3 : Nat))).setCell ⟨w.heap.size, 3, none⟩ (.int .i64 (n4.1 : Nat))).setCell ⟨w.heap.size, 4, none⟩ (.int .i64 (n4.2 : Nat))) = u := ⟨_, rfl⟩
  have HE := Lib.hid (show Moved b (RO r4) w wz by rw [← hwz]; exact (((((HM4.out.setNew hBl hbl (i := 0) (.int .i64 (n1 : Nat))).setNew hBl hbl (i := 1) (.bool ((n2 : Int) == 1))).setNew hBl hbl (i := 2) (.int .i64 (n3 : Nat))).setNew hBl hbl (i := 3) (.int .i64 (n4.1 : Nat))).setNew hBl hbl (i := 4) (.int .i64 (n4.2 : Nat))))
  have hz : wz.heap[w.heap.size]? = some (.cells #[.int .i64 (n1 : Nat), .bool ((n2 : Int) == 1), .int .i64 (n3 : Nat), .int .i64 (n4.1 : Nat), .int .i64 (n4.2 : Nat)] 64 (0, 0)) := by rw [← hwz]; exact (heap_set (heap_set (heap_set (heap_set (heap_set HX4.out (i := 0) (.int .i64 (n1 : Nat))) (i := 1) (.bool ((n2 : Int) == 1))) (i := 2) (.int .i64 (n3 : Nat))) (i := 3) (.int .i64 (n4.1 : Nat))) (i := 4) (.int .i64 (n4.2 : Nat)))
  have z0 : wz.cell? ⟨w.heap.size, 0, none⟩ = some (.int .i64 (n1 : Nat)) := by simp [World.cell?, hz]
  have z1 : wz.cell? ⟨w.heap.size, 1, none⟩ = some (.bool ((n2 : Int) == 1)) := by simp [World.cell?, hz]
  have z2 : wz.cell? ⟨w.heap.size, 2, none⟩ = some (.int .i64 (n3 : Nat)) := by simp [World.cell?, hz]
  have z3 : wz.cell? ⟨w.heap.size, 3, none⟩ = some (.int .i64 (n4.1 : Nat)) := by simp [World.cell?, hz]
  have z4 : wz.cell? ⟨w.heap.size, 4, none⟩ = some (.int .i64 (n4.2 : Nat)) := by simp [World.cell?, hz]
  clear hx hz
  go_wp2_with fail
  rw [← HQ.out]
  refine bodyPost_ret ?_ rfl ⟨rfl, HE.out⟩
  rw [results_cell_tmp rfl]
  go_simp
  try rfl
set_option maxRecDepth 100000 in
set_option maxHeartbeats 4000000 in
theorem entRd_any (b : Nat) (hb0 : b ≠ 0) (r : Rd) (hs : r.rest.length ≤ 281474976710656) (w : World) (hg : GE w) (hb : w.heap[b]? = some (RO r)) :
    Calls Tryz.prog 61 #[.pointer (some ⟨b, 0, none⟩)] w fun v w' => v = .returned (.tuple #[entV (entRd 65535 r).1, .int .i64 (entRd 65535 r).2.err]) ∧ Moved b (RO (entRd 65535 r).2) w w' := by
  have hbl := lt_of_heap hb
  have hB : w.heap.size ≠ b := by omega
  have hBl : w.heap.size ≤ w.heap.size := Nat.le_refl _
  obtain ⟨w0, hw0⟩ : ∃ w0, w.alloc (.cells #[.string ⟨#[]⟩, .int .i64 0] 58) = w0 := ⟨_, rfl⟩
  have HM0 := Lib.hid (show Moved b (RO r) w w0 by rw [← hw0]; exact Moved.made hb _)
  have HX0 := Lib.hid (show w0.heap[w.heap.size]? = some (.cells #[.string ⟨#[]⟩, .int .i64 0] 58) by rw [← hw0]; exact heap_alloc_new w _)
  obtain ⟨q, hq⟩ : ∃ q, (entRd 65535 r) = q := ⟨_, rfl⟩
  rw [hq]
  unfold entRd at hq
  try simp only at hq
  have C1 := fun w => qtext_any b hb0 r 16 hs w
  have l1 : (textR r 16).2.rest.length ≤ 281474976710656 := Nat.le_trans (textR_rest _ _) hs
  generalize textR r 16 = p1 at *
  obtain ⟨n1, r1⟩ := p1
  simp only at C1 l1 hq
  have C2 := fun w => qnum_any b hb0 r1 65535 l1 w
  have l2 : (numR r1 65535).2.rest.length ≤ 281474976710656 := Nat.le_trans (numR_rest _ _) l1
  generalize numR r1 65535 = p2 at *
  obtain ⟨n2, r2⟩ := p2
  simp only at C2 l2 hq
  have HQ := Lib.hid hq
  clear hq
  go_enter Tryz.func61, Tryz.ntmps61
  go_wp2_with fail
  refine (C1 _ (hg.moved HM0.out hb0) HM0.out.here).mono ?_
  rintro e v1 ⟨rfl, hM⟩
  have hx := hM.other HX0.out hB
  have hM := HM0.out.trans hM
  clear C1
  unfold textV
  have c1_0 : v1.cell? ⟨w.heap.size, 0, none⟩ = some (.string ⟨#[]⟩) := by simp [World.cell?, hx]
  have f1 : ∀ i, v1.frozen? ⟨w.heap.size, i, none⟩ = false := fun i => by simp [World.frozen?, hx]
  have f1a := f1 0
  clear f1
  obtain ⟨u1, hu1⟩ : ∃ u, (v1.setCell ⟨w.heap.size, 0, none⟩ (.string (bs n1))) = u := ⟨_, rfl⟩
  have HM1 := Lib.hid (show Moved b (RO r1) w u1 by rw [← hu1]; exact (hM.setNew hBl hbl (i := 0) (.string (bs n1))))
  have HX1 := Lib.hid (show u1.heap[w.heap.size]? = some (.cells #[.string (bs n1), .int .i64 0] 58) by rw [← hu1]; exact (heap_set hx (i := 0) (.string (bs n1))))
  clear hM hx
  go_wp2_with fail
  refine (C2 _ (hg.moved HM1.out hb0) HM1.out.here).mono ?_
  rintro e v2 ⟨rfl, hM⟩
  have hx := hM.other HX1.out hB
  have hM := HM1.out.trans hM
  clear C2
  unfold numV
  have c2_1 : v2.cell? ⟨w.heap.size, 1, none⟩ = some (.int .i64 0) := by simp [World.cell?, hx]
  have f2 : ∀ i, v2.frozen? ⟨w.heap.size, i, none⟩ = false := fun i => by simp [World.frozen?, hx]
  have f2a := f2 1
  clear f2
  obtain ⟨u2, hu2⟩ : ∃ u, (v2.setCell ⟨w.heap.size, 1, none⟩ (.int .i64 (n2 : Nat))) = u := ⟨_, rfl⟩
  have HM2 := Lib.hid (show Moved b (RO r2) w u2 by rw [← hu2]; exact (hM.setNew hBl hbl (i := 1) (.int .i64 (n2 : Nat))))
  have HX2 := Lib.hid (show u2.heap[w.heap.size]? = some (.cells #[.string (bs n1), .int .i64 (n2 : Nat)] 58) by rw [← hu2]; exact (heap_set hx (i := 1) (.int .i64 (n2 : Nat))))
  clear hM hx
  have hx := HX2.out
  have d0 : u2.cell? ⟨w.heap.size, 0, none⟩ = some (.string (bs n1)) := by simp [World.cell?, hx]
  have d1 : u2.cell? ⟨w.heap.size, 1, none⟩ = some (.int .i64 (n2 : Nat)) := by simp [World.cell?, hx]
  have e0 : u2.frozen? ⟨w.heap.size, 0, none⟩ = false := by simp [World.frozen?, hx]
  have e1 : u2.frozen? ⟨w.heap.size, 1, none⟩ = false := by simp [World.frozen?, hx]
  obtain ⟨wz, hwz⟩ : ∃ u, ((u2.setCell ⟨w.heap.size, 0, none⟩ (.string (bs n1))).setCell ⟨w.heap.size, 1, none⟩ (.int .i64 (n2 : Nat))) = u := ⟨_, rfl⟩
  have HE := Lib.hid (show Moved b (RO r2) w wz by rw [← hwz]; exact ((HM2.out.setNew hBl hbl (i := 0) (.string (bs n1))).setNew hBl hbl (i := 1) (.int .i64 (n2 : Nat))))
  have hz : wz.heap[w.heap.size]? = some (.cells #[.string (bs n1), .int .i64 (n2 : Nat)] 58 (0, 0)) := by rw [← hwz]; exact (heap_set (heap_set HX2.out (i := 0) (.string (bs n1))) (i := 1) (.int .i64 (n2 : Nat)))
  have z0 : wz.cell? ⟨w.heap.size, 0, none⟩ = some (.string (bs n1)) := by simp [World.cell?, hz]
  have z1 : wz.cell? ⟨w.heap.size, 1, none⟩ = some (.int .i64 (n2 : Nat)) := by simp [World.cell?, hz]
  clear hx hz
  go_wp2_with fail
  rw [← HQ.out]
  refine bodyPost_ret ?_ rfl ⟨rfl, HE.out⟩
  rw [results_cell_tmp rfl]
  go_simp
  try rfl
set_option maxRecDepth 100000 in
set_option maxHeartbeats 4000000 in
theorem snpRd_any (b : Nat) (hb0 : b ≠ 0) (r : Rd) (hs : r.rest.length ≤ 281474976710656) (w : World) (hg : GE w) (hb : w.heap[b]? = some (RO r)) :
    Calls Tryz.prog 31 #[.pointer (some ⟨b, 0, none⟩)] w fun v w' => v = .returned (.tuple #[snpV (snpRd 1099511627776 7 4095 16384 r).1, .int .i64 (snpRd 1099511627776 7 4095 16384 r).2.err]) ∧ Moved b (RO (snpRd 1099511627776 7 4095 16384 r).2) w w' := by
  have hbl := lt_of_heap hb
  have hB : w.heap.size ≠ b := by omega
  have hBl : w.heap.size ≤ w.heap.size := Nat.le_refl _
  obtain ⟨w0, hw0⟩ : ∃ w0, w.alloc (.cells #[.string ⟨#[]⟩, .int .i64 0, .int .i64 0, .int .i64 0, .int .i64 0] 35) = w0 := ⟨_, rfl⟩
  have HM0 := Lib.hid (show Moved b (RO r) w w0 by rw [← hw0]; exact Moved.made hb _)
  have HX0 := Lib.hid (show w0.heap[w.heap.size]? = some (.cells #[.string ⟨#[]⟩, .int .i64 0, .int .i64 0, .int .i64 0, .int .i64 0] 35) by rw [← hw0]; exact heap_alloc_new w _)
  obtain ⟨q, hq⟩ : ∃ q, (snpRd 1099511627776 7 4095 16384 r) = q := ⟨_, rfl⟩
  rw [hq]
  rw [snpRd_blob] at hq
  try simp only at hq
  have C1 := fun w => qtext_any b hb0 r 16 hs w
  have l1 : (textR r 16).2.rest.length ≤ 281474976710656 := Nat.le_trans (textR_rest _ _) hs
  generalize textR r 16 = p1 at *
  obtain ⟨n1, r1⟩ := p1
  simp only at C1 l1 hq
  have C2 := fun w => qnum_any b hb0 r1 1099511627776 l1 w
  have l2 : (numR r1 1099511627776).2.rest.length ≤ 281474976710656 := Nat.le_trans (numR_rest _ _) l1
  generalize numR r1 1099511627776 = p2 at *
  obtain ⟨n2, r2⟩ := p2
  simp only at C2 l2 hq
  have C3 := fun w => qnum_any b hb0 r2 7 l2 w
  have l3 : (numR r2 7).2.rest.length ≤ 281474976710656 := Nat.le_trans (numR_rest _ _) l2
  generalize numR r2 7 = p3 at *
  obtain ⟨n3, r3⟩ := p3
  simp only at C3 l3 hq
  have C4 := fun w => blob_any b hb0 r3 l3 w
  have l4 : (blobRd 4095 16384 r3).2.rest.length ≤ 281474976710656 := Nat.le_trans (blobRd_rest _ _ _) l3
  generalize blobRd 4095 16384 r3 = p4 at *
  obtain ⟨n4, r4⟩ := p4
  simp only at C4 l4 hq
  have HQ := Lib.hid hq
  clear hq
  go_enter Tryz.func31, Tryz.ntmps31
  go_wp2_with fail
  refine (C1 _ (hg.moved HM0.out hb0) HM0.out.here).mono ?_
  rintro e v1 ⟨rfl, hM⟩
  have hx := hM.other HX0.out hB
  have hM := HM0.out.trans hM
  clear C1
  unfold textV
  have c1_0 : v1.cell? ⟨w.heap.size, 0, none⟩ = some (.string ⟨#[]⟩) := by simp [World.cell?, hx]
  have f1 : ∀ i, v1.frozen? ⟨w.heap.size, i, none⟩ = false := fun i => by simp [World.frozen?, hx]
  have f1a := f1 0
  clear f1
  obtain ⟨u1, hu1⟩ : ∃ u, (v1.setCell ⟨w.heap.size, 0, none⟩ (.string (bs n1))) = u := ⟨_, rfl⟩
  have HM1 := Lib.hid (show Moved b (RO r1) w u1 by rw [← hu1]; exact (hM.setNew hBl hbl (i := 0) (.string (bs n1))))
  have HX1 := Lib.hid (show u1.heap[w.heap.size]? = some (.cells #[.string (bs n1), .int .i64 0, .int .i64 0, .int .i64 0, .int .i64 0] 35) by rw [← hu1]; exact (heap_set hx (i := 0) (.string (bs n1))))
  clear hM hx
  go_wp2_with fail
  refine (C2 _ (hg.moved HM1.out hb0) HM1.out.here).mono ?_
  rintro e v2 ⟨rfl, hM⟩
  have hx := hM.other HX1.out hB
  have hM := HM1.out.trans hM
  clear C2
  unfold numV
  have c2_1 : v2.cell? ⟨w.heap.size, 1, none⟩ = some (.int .i64 0) := by simp [World.cell?, hx]
  have f2 : ∀ i, v2.frozen? ⟨w.heap.size, i, none⟩ = false := fun i => by simp [World.frozen?, hx]
  have f2a := f2 1
  clear f2
  obtain ⟨u2, hu2⟩ : ∃ u, (v2.setCell ⟨w.heap.size, 1, none⟩ (.int .i64 (n2 : Nat))) = u := ⟨_, rfl⟩
  have HM2 := Lib.hid (show Moved b (RO r2) w u2 by rw [← hu2]; exact (hM.setNew hBl hbl (i := 1) (.int .i64 (n2 : Nat))))
  have HX2 := Lib.hid (show u2.heap[w.heap.size]? = some (.cells #[.string (bs n1), .int .i64 (n2 : Nat), .int .i64 0, .int .i64 0, .int .i64 0] 35) by rw [← hu2]; exact (heap_set hx (i := 1) (.int .i64 (n2 : Nat))))
  clear hM hx
  go_wp2_with fail
  refine (C3 _ (hg.moved HM2.out hb0) HM2.out.here).mono ?_
  rintro e v3 ⟨rfl, hM⟩
  have hx := hM.other HX2.out hB
  have hM := HM2.out.trans hM
  clear C3
  unfold numV
  have c3_2 : v3.cell? ⟨w.heap.size, 2, none⟩ = some (.int .i64 0) := by simp [World.cell?, hx]
  have f3 : ∀ i, v3.frozen? ⟨w.heap.size, i, none⟩ = false := fun i => by simp [World.frozen?, hx]
  have f3a := f3 2
  clear f3
  obtain ⟨u3, hu3⟩ : ∃ u, (v3.setCell ⟨w.heap.size, 2, none⟩ (.int .i64 (n3 : Nat))) = u := ⟨_, rfl⟩
  have HM3 := Lib.hid (show Moved b (RO r3) w u3 by rw [← hu3]; exact (hM.setNew hBl hbl (i := 2) (.int .i64 (n3 : Nat))))
  have HX3 := Lib.hid (show u3.heap[w.heap.size]? = some (.cells #[.string (bs n1), .int .i64 (n2 : Nat), .int .i64 (n3 : Nat), .int .i64 0, .int .i64 0] 35) by rw [← hu3]; exact (heap_set hx (i := 2) (.int .i64 (n3 : Nat))))
  clear hM hx
  go_wp2_with fail
  refine (C4 _ (hg.moved HM3.out hb0) HM3.out.here).mono ?_
  rintro e v4 ⟨rfl, hM⟩
  have hx := hM.other HX3.out hB
  have hM := HM3.out.trans hM
  clear C4
  unfold blobV
  have c4_3 : v4.cell? ⟨w.heap.size, 3, none⟩ = some (.int .i64 0) := by simp [World.cell?, hx]
  have c4_4 : v4.cell? ⟨w.heap.size, 4, none⟩ = some (.int .i64 0) := by simp [World.cell?, hx]
  have f4 : ∀ i, v4.frozen? ⟨w.heap.size, i, none⟩ = false := fun i => by simp [World.frozen?, hx]
  have f4_3 := f4 3
  have f4_4 := f4 4
  clear f4
  obtain ⟨u4, hu4⟩ : ∃ u, ((v4.setCell ⟨w.heap.size, 3, none⟩ (.int .i64 (n4.1 : Nat))).setCell ⟨w.heap.size, 4, none⟩ (.int .i64 (n4.2 : Nat))) = u := ⟨_, rfl⟩
  have HM4 := Lib.hid (show Moved b (RO r4) w u4 by rw [← hu4]; exact ((hM.setNew hBl hbl (i := 3) (.int .i64 (n4.1 : Nat))).setNew hBl hbl (i := 4) (.int .i64 (n4.2 : Nat))))
  have HX4 := Lib.hid (show u4.heap[w.heap.size]? = some (.cells #[.string (bs n1), .int .i64 (n2 : Nat), .int .i64 (n3 : Nat), .int .i64 (n4.1 : Nat), .int .i64 (n4.2 : Nat)] 35) by rw [← hu4]; exact (heap_set (heap_set hx (i := 3) (.int .i64 (n4.1 : Nat))) (i := 4) (.int .i64 (n4.2 : Nat))))
  clear hM hx
  have hx := HX4.out
  have d0 : u4.cell? ⟨w.heap.size, 0, none⟩ = some (.string (bs n1)) := by simp [World.cell?, hx]
  have d1 : u4.cell? ⟨w.heap.size, 1, none⟩ = some (.int .i64 (n2 : Nat)) := by simp [World.cell?, hx]
  have d2 : u4.cell? ⟨w.heap.size, 2, none⟩ = some (.int .i64 (n3 : Nat)) := by simp [World.cell?, hx]
  have d3 : u4.cell? ⟨w.heap.size, 3, none⟩ = some (.int .i64 (n4.1 : Nat)) := by simp [World.cell?, hx]
  have d4 : u4.cell? ⟨w.heap.size, 4, none⟩ = some (.int .i64 (n4.2 : Nat)) := by simp [World.cell?, hx]
  have e0 : u4.frozen? ⟨w.heap.size, 0, none⟩ = false := by simp [World.frozen?, hx]
  have e1 : u4.frozen? ⟨w.heap.size, 1, none⟩ = false := by simp [World.frozen?, hx]
  have e2 : u4.frozen? ⟨w.heap.size, 2, none⟩ = false := by simp [World.frozen?, hx]
  have e3 : u4.frozen? ⟨w.heap.size, 3, none⟩ = false := by simp [World.frozen?, hx]
  have e4 : u4.frozen? ⟨w.heap.size, 4, none⟩ = false := by simp [World.frozen?, hx]
  obtain ⟨wz, hwz⟩ : ∃ u, (((((u4.setCell ⟨w.heap.size, 0, none⟩ (.string (bs n1))).setCell ⟨w.heap.size, 1, none⟩ (.int .i64 (n2 : Nat))).setCell ⟨w.heap.size, 2, none⟩ (.int .i64 (n3 : Nat))).setCell ⟨w.heap.size, 3, none⟩ (.int .i64 (n4.1 : Nat))).setCell ⟨w.heap.size, 4, none⟩ (.int .i64 (n4.2 : Nat))) = u := ⟨_, rfl⟩
  have HE := Lib.hid (show Moved b (RO r4) w wz by rw [← hwz]; exact (((((HM4.out.setNew hBl hbl (i := 0) (.string (bs n1))).setNew hBl hbl (i := 1) (.int .i64 (n2 : Nat))).setNew hBl hbl (i := 2) (.int .i64 (n3 : Nat))).setNew hBl hbl (i := 3) (.int .i64 (n4.1 : Nat))).setNew hBl hbl (i := 4) (.int .i64 (n4.2 : Nat))))
  have hz : wz.heap[w.heap.size]? = some (.cells #[.string (bs n1), .int .i64 (n2 : Nat), .int .i64 (n3 : Nat), .int .i64 (n4.1 : Nat), .int .i64 (n4.2 : Nat)] 35 (0, 0)) := by rw [← hwz]; exact (heap_set (heap_set (heap_set (heap_set (heap_set HX4.out (i := 0) (.string (bs n1))) (i := 1) (.int .i64 (n2 : Nat))) (i := 2) (.int .i64 (n3 : Nat))) (i := 3) (.int .i64 (n4.1 : Nat))) (i := 4) (.int .i64 (n4.2 : Nat)))
  have z0 : wz.cell? ⟨w.heap.size, 0, none⟩ = some (.string (bs n1)) := by simp [World.cell?, hz]
  have z1 : wz.cell? ⟨w.heap.size, 1, none⟩ = some (.int .i64 (n2 : Nat)) := by simp [World.cell?, hz]
  have z2 : wz.cell? ⟨w.heap.size, 2, none⟩ = some (.int .i64 (n3 : Nat)) := by simp [World.cell?, hz]
  have z3 : wz.cell? ⟨w.heap.size, 3, none⟩ = some (.int .i64 (n4.1 : Nat)) := by simp [World.cell?, hz]
  have z4 : wz.cell? ⟨w.heap.size, 4, none⟩ = some (.int .i64 (n4.2 : Nat)) := by simp [World.cell?, hz]
  clear hx hz
  go_wp2_with fail
  rw [← HQ.out]
  refine bodyPost_ret ?_ rfl ⟨rfl, HE.out⟩
  rw [results_cell_tmp rfl]
  go_simp
  try rfl
end Go.Proofs.YtffebghkmobeoaaGreatDoor

