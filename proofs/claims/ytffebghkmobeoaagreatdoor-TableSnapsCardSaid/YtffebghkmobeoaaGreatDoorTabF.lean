/-
  The same for entries and snapshots.
-/
import Derived.Test.YtffebghkmobeoaaGreatDoorTabE
namespace Go.Proofs.YtffebghkmobeoaaGreatDoor
open Go.RowKit Go

theorem below_undrew {B : Nat} {a w : World} (h : Below B a.drew w) : Below B a w := ⟨h.os, h.tape, h.output, h.size, h.block⟩
theorem entL_any (x y : Ent) (w : World) :
    Calls Tryz.prog 63 #[entV x, entV y] w fun e w' => e = .returned (.bool (Op.bytesLess x.name.toList y.name.toList)) ∧ Below w.heap.size w w' := by
  obtain ⟨name, num⟩ := x
  obtain ⟨name2, num2⟩ := y
  unfold entV
  go_enter Tryz.func63, Tryz.ntmps63
  go_wp2
  go_ret
  exact ⟨rfl, ((Below.refl _ w).alloc (Nat.le_refl _) _).alloc (by simp) _⟩
set_option maxRecDepth 100000 in
set_option maxHeartbeats 2000000 in
theorem entE_any (x : Ent) (h : EntOk x) (w : World) :
    Calls Tryz.prog 60 #[entV x] w fun e w' => e = .returned (.string (bs (entEnc x))) ∧ Below w.heap.size w w' := by
  obtain ⟨name, num⟩ := x
  obtain ⟨h1, h2, h3⟩ := h
  simp only at h1 h2 h3
  unfold entV
  have hg : ∀ z ∈ [num], good z := by intro z hz; obtain rfl := List.mem_singleton.1 hz; constructor <;> omega
  have CN := nums_new [num] (by simp) hg
  have CL := nums_late [num] (by simp) hg
  have HE := Lib.hid (show bs (txt name ++ layL [num.toNat]) = bs (entEnc ⟨name, num⟩) from rfl)
  have CT := fun w => text_any name (by have := h1.2.1; omega) w
  simp only [List.map_cons, List.map_nil, List.length_cons, List.length_nil, Nat.reduceAdd] at CN CL
  obtain ⟨T, hT⟩ : ∃ T, txt name = T := ⟨_, rfl⟩
  obtain ⟨L, hL⟩ : ∃ L, layL [num.toNat] = L := ⟨_, rfl⟩
  have HL := Lib.hid (show T.length ≤ 17 ∧ L.length ≤ 9 by
    rw [← hT, ← hL]
    refine ⟨txt_len h1.2.1, ?_⟩
    rw [layL_one]
    exact dg_9 (by omega))
  rw [hT, hL, bs_append] at HE
  rw [hL] at CN CL
  rw [hT] at CT
  have nsum : ¬ 9223372036854775807 < (bs T).size + (bs L).size := by rw [bs_size, bs_size]; have := HL.out; omega
  clear HL hT hL
  generalize bs T = D at *
  generalize bs L = E at *
  obtain ⟨w0, hw0⟩ : ∃ w0, w.alloc (.cells #[.string name, .int .i64 num] 58) = w0 := ⟨_, rfl⟩
  have hh : w0.heap[w.heap.size]? = some (.cells #[.string name, .int .i64 num] 58 (0, 0)) := by rw [← hw0]; exact heap_alloc_new _ _
  have HB := Lib.hid (show Below w.heap.size w w0.drew by rw [← hw0]; exact ((Below.refl _ w).alloc (Nat.le_refl _) _).drew)
  have HK := Lib.hid (show ∀ W, Below w0.drew.heap.size w0.drew W → W.cell? ⟨w.heap.size, 0, none⟩ = some (.string name) ∧ W.cell? ⟨w.heap.size, 1, none⟩ = some (.int .i64 num) from fun W hB => by
    have hl := lt_of_heap hh
    have e := (hB.block w.heap.size hl).trans hh
    exact ⟨by simp [World.cell?, e], by simp [World.cell?, e]⟩)
  have HR := Lib.hid (Below.refl w0.drew.heap.size w0.drew)
  have HCN := Lib.hid CN
  have HCL := Lib.hid CL
  have HCT := Lib.hid CT
  clear hh h1 h2 h3 hg CN CL CT
  go_enter Tryz.func60, Tryz.ntmps60
  go_wp2
  go_region_held3 (fun w' => w'.cell? ⟨w.heap.size, 0, none⟩ = some (.string name) ∧ w'.cell? ⟨w.heap.size, 1, none⟩ = some (.int .i64 num))
    (first | exact HK.out _ HR.out | exact HK.out _ K2.out | exact HK.out _ K1.out | exact HK.out _ (K1.out.alloc K1.out.size _) | exact HK.out _ (HR.out.alloc (Nat.le_refl _) _))
    (first
      | (go_at_call 30; refine (HCT.out w0.drew).mono ?_; rintro e w1 ⟨rfl, hB⟩; have K1 := Lib.hid hB; clear hB)
      | (go_at_call 30; refine (HCT.out _).mono ?_; rintro e w1 ⟨rfl, hB⟩; have KB := Lib.hid hB; have K1 := Lib.hid ((HR.out.alloc (Nat.le_refl _) (.cells #[.int .i64 num] 3)).trans (KB.out.mono (by simp))); clear hB)
      | (go_at_call 27; refine (HCN.out _ _).mono ?_; rintro e w2 ⟨rfl, hB⟩; have K2 := Lib.hid (K1.out.trans (hB.mono K1.out.size)); clear hB)
      | (go_at_call 27; refine (HCL.out w0 _ _ (below_undrew KB.out)).mono ?_; rintro e w2 ⟨rfl, hB⟩; have K2 := Lib.hid (K1.out.trans (hB.mono K1.out.size)); clear hB))
  all_goals (
    go_wp2
    go_ret
    exact ⟨by rw [← HE.out]; rfl, HB.out.trans (K2.out.mono HB.out.size)⟩)
set_option maxRecDepth 100000 in
set_option maxHeartbeats 2000000 in
theorem snpE_any (x : Snp) (h : SnpOk x) (w : World) :
    Calls Tryz.prog 29 #[snpV x] w fun e w' => e = .returned (.string (bs (snpEnc x))) ∧ Below w.heap.size w w' := by
  obtain ⟨name, id, plane, root, size⟩ := x
  obtain ⟨h1, h2, h3, h4, h5, h6⟩ := h
  obtain ⟨b1, b2, b3, b4⟩ := blob_bounds h6
  simp only at h1 h2 h3 h4 h5 b1 b2 b3 b4
  unfold snpV
  have hg : ∀ z ∈ [id, plane, root, size], good z := by 
    intro z hz
    simp only [List.mem_cons, List.not_mem_nil, or_false] at hz
    rcases hz with rfl | rfl | rfl | rfl <;> constructor <;> omega
  have CN := nums_new [id, plane, root, size] (by simp) hg
  have CL := nums_late [id, plane, root, size] (by simp) hg
  have HE := Lib.hid (show bs (txt name ++ layL [id.toNat, plane.toNat, root.toNat, size.toNat]) = bs (snpEnc ⟨name, id, plane, root, size⟩) from rfl)
  have CT := fun w => text_any name (by have := h1.2.1; omega) w
  simp only [List.map_cons, List.map_nil, List.length_cons, List.length_nil, Nat.reduceAdd] at CN CL
  obtain ⟨T, hT⟩ : ∃ T, txt name = T := ⟨_, rfl⟩
  obtain ⟨L, hL⟩ : ∃ L, layL [id.toNat, plane.toNat, root.toNat, size.toNat] = L := ⟨_, rfl⟩
  have HL := Lib.hid (show T.length ≤ 17 ∧ L.length ≤ 36 by
    rw [← hT, ← hL]
    refine ⟨txt_len h1.2.1, ?_⟩
    have := layL_len [id.toNat, plane.toNat, root.toNat, size.toNat] (by
      intro n hn
      simp only [List.mem_cons, List.not_mem_nil, or_false] at hn
      rcases hn with rfl | rfl | rfl | rfl <;> omega)
    simpa using this)
  rw [hT, hL, bs_append] at HE
  rw [hL] at CN CL
  rw [hT] at CT
  have nsum : ¬ 9223372036854775807 < (bs T).size + (bs L).size := by rw [bs_size, bs_size]; have := HL.out; omega
  clear HL hT hL
  generalize bs T = D at *
  generalize bs L = E at *
  obtain ⟨w0, hw0⟩ : ∃ w0, w.alloc (.cells #[.string name, .int .i64 id, .int .i64 plane, .int .i64 root, .int .i64 size] 35) = w0 := ⟨_, rfl⟩
  have hh : w0.heap[w.heap.size]? = some (.cells #[.string name, .int .i64 id, .int .i64 plane, .int .i64 root, .int .i64 size] 35 (0, 0)) := by rw [← hw0]; exact heap_alloc_new _ _
  have HB := Lib.hid (show Below w.heap.size w w0.drew by rw [← hw0]; exact ((Below.refl _ w).alloc (Nat.le_refl _) _).drew)
  have HK := Lib.hid (show ∀ W, Below w0.drew.heap.size w0.drew W → W.cell? ⟨w.heap.size, 0, none⟩ = some (.string name) ∧ W.cell? ⟨w.heap.size, 1, none⟩ = some (.int .i64 id) ∧ W.cell? ⟨w.heap.size, 2, none⟩ = some (.int .i64 plane) ∧ W.cell? ⟨w.heap.size, 3, none⟩ = some (.int .i64 root) ∧ W.cell? ⟨w.heap.size, 4, none⟩ = some (.int .i64 size) from fun W hB => by
    have hl := lt_of_heap hh
    have e := (hB.block w.heap.size hl).trans hh
    exact ⟨by simp [World.cell?, e], by simp [World.cell?, e], by simp [World.cell?, e], by simp [World.cell?, e], by simp [World.cell?, e]⟩)
  have HR := Lib.hid (Below.refl w0.drew.heap.size w0.drew)
  have HCN := Lib.hid CN
  have HCL := Lib.hid CL
  have HCT := Lib.hid CT
  clear hh h1 h2 h3 h4 h5 h6 b1 b2 b3 b4 hg CN CL CT
  go_enter Tryz.func29, Tryz.ntmps29
  go_wp2
  go_region_held3 (fun w' => w'.cell? ⟨w.heap.size, 0, none⟩ = some (.string name) ∧ w'.cell? ⟨w.heap.size, 1, none⟩ = some (.int .i64 id) ∧ w'.cell? ⟨w.heap.size, 2, none⟩ = some (.int .i64 plane) ∧ w'.cell? ⟨w.heap.size, 3, none⟩ = some (.int .i64 root) ∧ w'.cell? ⟨w.heap.size, 4, none⟩ = some (.int .i64 size))
    (first | exact HK.out _ HR.out | exact HK.out _ K2.out | exact HK.out _ K1.out | exact HK.out _ (K1.out.alloc K1.out.size _) | exact HK.out _ (HR.out.alloc (Nat.le_refl _) _))
    (first
      | (go_at_call 30; refine (HCT.out w0.drew).mono ?_; rintro e w1 ⟨rfl, hB⟩; have K1 := Lib.hid hB; clear hB)
      | (go_at_call 30; refine (HCT.out _).mono ?_; rintro e w1 ⟨rfl, hB⟩; have KB := Lib.hid hB; have K1 := Lib.hid ((HR.out.alloc (Nat.le_refl _) (.cells #[.int .i64 id, .int .i64 plane, .int .i64 root, .int .i64 size] 3)).trans (KB.out.mono (by simp))); clear hB)
      | (go_at_call 27; refine (HCN.out _ _).mono ?_; rintro e w2 ⟨rfl, hB⟩; have K2 := Lib.hid (K1.out.trans (hB.mono K1.out.size)); clear hB)
      | (go_at_call 27; refine (HCL.out w0 _ _ (below_undrew KB.out)).mono ?_; rintro e w2 ⟨rfl, hB⟩; have K2 := Lib.hid (K1.out.trans (hB.mono K1.out.size)); clear hB))
  all_goals (
    go_wp2
    go_ret
    exact ⟨by rw [← HE.out]; rfl, HB.out.trans (K2.out.mono HB.out.size)⟩)
theorem snpL_any (x y : Snp) (w : World) :
    Calls Tryz.prog 38 #[snpV x, snpV y] w fun e w' => e = .returned (.bool (decide (x.id < y.id))) ∧ Below w.heap.size w w' := by
  obtain ⟨name, num, dir, links, root⟩ := x
  obtain ⟨name2, num2, dir2, links2, root2⟩ := y
  unfold snpV
  go_enter Tryz.func38, Tryz.ntmps38
  go_wp2
  go_ret
  exact ⟨rfl, ((Below.refl _ w).alloc (Nat.le_refl _) _).alloc (by simp) _⟩
noncomputable def okEB (x : Ent) : Bool := nameB x.name && withinB x.num 1 65535
theorem okEB_iff (x : Ent) : okEB x = true ↔ EntOk x := by
  unfold okEB EntOk
  rw [Bool.and_eq_true, nameB_iff, within_iff]
noncomputable def okSB (x : Snp) : Bool := nameB x.name && withinB x.id 1 1099511627776 && withinB x.plane 1 7 && blobB x.root x.size
theorem okSB_iff (x : Snp) : okSB x = true ↔ SnpOk x := by
  unfold okSB SnpOk
  rw [Bool.and_eq_true, Bool.and_eq_true, Bool.and_eq_true, nameB_iff, within_iff, within_iff, blob_iff]
  constructor
  · rintro ⟨⟨⟨a, b, c⟩, d, e⟩, f⟩; exact ⟨a, b, c, d, e, f⟩
  · rintro ⟨a, b, c, d, e, f⟩; exact ⟨⟨⟨a, b, c⟩, d, e⟩, f⟩
set_option maxRecDepth 100000 in
set_option maxHeartbeats 2000000 in
theorem entM_any (x : Ent) (hx : x.name.size ≤ 140737488355328) (w : World) :
    Calls Tryz.prog 62 #[entV x] w fun e w' => e = .returned (.bool (okEB x)) ∧ Below w.heap.size w w' := by
  obtain ⟨name, num⟩ := x
  obtain ⟨z, hz⟩ : ∃ z, okEB ⟨name, num⟩ = z := ⟨_, rfl⟩
  rw [hz]
  unfold okEB at hz
  simp only at hz hx
  unfold entV
  obtain ⟨w0, hw0⟩ : ∃ w0, w.alloc (.cells #[.string name, .int .i64 num] 58) = w0 := ⟨_, rfl⟩
  have hh : w0.heap[w.heap.size]? = some (.cells #[.string name, .int .i64 num] 58 (0, 0)) := by rw [← hw0]; exact heap_alloc_new _ _
  have HB := Lib.hid (show Below w.heap.size w w0 by rw [← hw0]; exact (Below.refl _ w).alloc (Nat.le_refl _) _)
  have c0 : w0.cell? ⟨w.heap.size, 0, none⟩ = some (.string name) := by simp [World.cell?, hh]
  have c1 : w0.cell? ⟨w.heap.size, 1, none⟩ = some (.int .i64 num) := by simp [World.cell?, hh]
  have C1 := fun w => name_any name hx w
  have C2 := fun w => within_any num 1 65535 w
  generalize nameB name = p at *
  generalize withinB num 1 65535 = q at *
  have HZ := Lib.hid hz
  clear hz hh
  cases p with
  | false =>
    go_enter Tryz.func62, Tryz.ntmps62
    go_wp2_with (first
      | (go_at_call 25; refine (C1 _).mono ?_; rintro e w' ⟨rfl, rfl⟩)
      | (go_at_call 36; refine (C2 _).mono ?_; rintro e w' ⟨rfl, rfl⟩))
    go_ret
    exact ⟨by rw [← HZ.out]; rfl, HB.out⟩
  | true =>
    go_enter Tryz.func62, Tryz.ntmps62
    go_wp2_with (first
      | (go_at_call 25; refine (C1 _).mono ?_; rintro e w' ⟨rfl, rfl⟩)
      | (go_at_call 36; refine (C2 _).mono ?_; rintro e w' ⟨rfl, rfl⟩))
    go_ret
    exact ⟨by rw [← HZ.out]; simp, HB.out⟩
set_option maxRecDepth 100000 in
set_option maxHeartbeats 2000000 in
theorem snpM_any (x : Snp) (hx : x.name.size ≤ 140737488355328) (w : World) :
    Calls Tryz.prog 35 #[snpV x] w fun e w' => e = .returned (.bool (okSB x)) ∧ Below w.heap.size w w' := by
  obtain ⟨name, id, plane, root, size⟩ := x
  obtain ⟨z, hz⟩ : ∃ z, okSB ⟨name, id, plane, root, size⟩ = z := ⟨_, rfl⟩
  rw [hz]
  unfold okSB at hz
  simp only at hz hx
  unfold snpV
  obtain ⟨w0, hw0⟩ : ∃ w0, w.alloc (.cells #[.string name, .int .i64 id, .int .i64 plane, .int .i64 root, .int .i64 size] 35) = w0 := ⟨_, rfl⟩
  have hh : w0.heap[w.heap.size]? = some (.cells #[.string name, .int .i64 id, .int .i64 plane, .int .i64 root, .int .i64 size] 35 (0, 0)) := by rw [← hw0]; exact heap_alloc_new _ _
  have HB := Lib.hid (show Below w.heap.size w w0 by rw [← hw0]; exact (Below.refl _ w).alloc (Nat.le_refl _) _)
  have c0 : w0.cell? ⟨w.heap.size, 0, none⟩ = some (.string name) := by simp [World.cell?, hh]
  have c1 : w0.cell? ⟨w.heap.size, 1, none⟩ = some (.int .i64 id) := by simp [World.cell?, hh]
  have c2 : w0.cell? ⟨w.heap.size, 2, none⟩ = some (.int .i64 plane) := by simp [World.cell?, hh]
  have c3 : w0.cell? ⟨w.heap.size, 3, none⟩ = some (.int .i64 root) := by simp [World.cell?, hh]
  have c4 : w0.cell? ⟨w.heap.size, 4, none⟩ = some (.int .i64 size) := by simp [World.cell?, hh]
  have C1 := fun w => name_any name hx w
  have C : ∀ (n m : Int) (w : World) (v : Bool), ((n = id ∧ m = 1099511627776 ∧ v = withinB id 1 1099511627776) ∨ (n = plane ∧ m = 7 ∧ v = withinB plane 1 7)) → Calls Tryz.prog 36 #[.int .i64 n, .int .i64 1, .int .i64 m] w fun e w' => e = .returned (.bool v) ∧ w = w' := by
    intro n m w v hx
    rcases hx with ⟨rfl, rfl, rfl⟩ | ⟨rfl, rfl, rfl⟩
    · exact within_any _ _ _ w
    · exact within_any _ _ _ w
  have C2 := fun w => mayBlob_any root size w
  unfold blobV at C2
  generalize nameB name = n at *
  generalize withinB id 1 1099511627776 = p at *
  generalize withinB plane 1 7 = q at *
  generalize blobB root size = r at *
  have HZ := Lib.hid hz
  clear hz hh
  cases n with
  | false =>
    go_enter Tryz.func35, Tryz.ntmps35
    go_wp2_with (first
      | (go_at_call 25; refine (C1 _).mono ?_; rintro e w' ⟨rfl, rfl⟩)
      | (go_at_call 36; refine (C _ _ _ _ (by first | exact .inl ⟨rfl, rfl, rfl⟩ | exact .inr ⟨rfl, rfl, rfl⟩)).mono ?_; rintro e w' ⟨rfl, rfl⟩)
      | (go_at_call 37; refine (C2 _).mono ?_; rintro e w1 ⟨rfl, hB⟩))
    go_ret
    exact ⟨by rw [← HZ.out]; rfl, HB.out⟩
  | true =>
    cases p with
    | false =>
      go_enter Tryz.func35, Tryz.ntmps35
      go_wp2_with (first
      | (go_at_call 25; refine (C1 _).mono ?_; rintro e w' ⟨rfl, rfl⟩)
      | (go_at_call 36; refine (C _ _ _ _ (by first | exact .inl ⟨rfl, rfl, rfl⟩ | exact .inr ⟨rfl, rfl, rfl⟩)).mono ?_; rintro e w' ⟨rfl, rfl⟩)
      | (go_at_call 37; refine (C2 _).mono ?_; rintro e w1 ⟨rfl, hB⟩))
      go_ret
      exact ⟨by rw [← HZ.out]; rfl, HB.out⟩
    | true =>
      cases q with
      | false =>
        go_enter Tryz.func35, Tryz.ntmps35
        go_wp2_with (first
      | (go_at_call 25; refine (C1 _).mono ?_; rintro e w' ⟨rfl, rfl⟩)
      | (go_at_call 36; refine (C _ _ _ _ (by first | exact .inl ⟨rfl, rfl, rfl⟩ | exact .inr ⟨rfl, rfl, rfl⟩)).mono ?_; rintro e w' ⟨rfl, rfl⟩)
      | (go_at_call 37; refine (C2 _).mono ?_; rintro e w1 ⟨rfl, hB⟩))
        go_ret
        exact ⟨by rw [← HZ.out]; rfl, HB.out⟩
      | true =>
        go_enter Tryz.func35, Tryz.ntmps35
        go_wp2_with (first
      | (go_at_call 25; refine (C1 _).mono ?_; rintro e w' ⟨rfl, rfl⟩)
      | (go_at_call 36; refine (C _ _ _ _ (by first | exact .inl ⟨rfl, rfl, rfl⟩ | exact .inr ⟨rfl, rfl, rfl⟩)).mono ?_; rintro e w' ⟨rfl, rfl⟩)
      | (go_at_call 37; refine (C2 _).mono ?_; rintro e w1 ⟨rfl, hB⟩))
        go_ret
        exact ⟨by rw [← HZ.out]; rfl, HB.out.trans (hB.mono HB.out.size)⟩
end Go.Proofs.YtffebghkmobeoaaGreatDoor

