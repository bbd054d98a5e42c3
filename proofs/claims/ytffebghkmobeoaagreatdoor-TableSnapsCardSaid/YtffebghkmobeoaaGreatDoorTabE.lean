/-
  How package tables lays each kind of things; which may be; which is below which.
-/
import Derived.Test.YtffebghkmobeoaaGreatDoorTabN
import Derived.Deep.RegionHeld3
import Derived.Great.BuildSlice
namespace Go.Proofs.YtffebghkmobeoaaGreatDoor
open Go.RowKit Go

theorem ints_new (w : World) (zs : List Int) (t : TypeId) : IntsAt (w.alloc (.cells (zs.map fun z => Value.int .i64 z).toArray t)) (.slice (some ⟨w.heap.size, 0, none⟩) zs.length zs.length) zs := by
  refine IntsAt.at w.heap.size 0 zs.length rfl (by simp) fun j hj => ?_
  have h := heap_alloc_new w (.cells (zs.map fun z => Value.int .i64 z).toArray t)
  generalize w.alloc (.cells (zs.map fun z => Value.int .i64 z).toArray t) = W at h ⊢
  simp [World.cell?, h, hj]
/-- numbers that were put in a new row -/
theorem nums_new (zs : List Int) (hz : zs.length ≤ 1000) (hg : ∀ z ∈ zs, good z) (w : World) (t : TypeId) :
    Calls Tryz.prog 27 #[.slice (some ⟨w.heap.size, 0, none⟩) zs.length zs.length] (w.alloc (.cells (zs.map fun z => Value.int .i64 z).toArray t)) fun e w' => e = .returned (.string (bs (layL (zs.map Int.toNat)))) ∧ Below w.heap.size w w' := by
  refine (nums_any _ zs hz hg _ (ints_new w zs t)).mono ?_
  rintro e w' ⟨rfl, hB⟩
  exact ⟨rfl, ((Below.refl _ w).alloc (Nat.le_refl _) _).trans (hB.mono (by simp))⟩
/-- the same, with something done in between -/
theorem nums_late (zs : List Int) (hz : zs.length ≤ 1000) (hg : ∀ z ∈ zs, good z) (w : World) (t : TypeId) (w' : World) (hB : Below (w.alloc (.cells (zs.map fun z => Value.int .i64 z).toArray t)).heap.size (w.alloc (.cells (zs.map fun z => Value.int .i64 z).toArray t)) w') :
    Calls Tryz.prog 27 #[.slice (some ⟨w.heap.size, 0, none⟩) zs.length zs.length] w' fun e w'' => e = .returned (.string (bs (layL (zs.map Int.toNat)))) ∧ Below w'.heap.size w' w'' :=
  nums_any _ zs hz hg _ ((ints_new w zs t).later hB)
theorem good_of_le {z m : Int} (h1 : 0 ≤ z) (h2 : z ≤ m) (hm : m ≤ 4611686018427387903) : good z := ⟨h1, by omega⟩

/-! ### Inodes -/
set_option maxRecDepth 100000 in
set_option maxHeartbeats 2000000 in
theorem inoE_any (x : Ino) (h : InoOk x) (w : World) :
    Calls Tryz.prog 65 #[inoV x] w fun e w' => e = .returned (.string (bs (inoEnc x))) ∧ Below w.heap.size w w' := by
  obtain ⟨num, dir, links, root, size⟩ := x
  obtain ⟨h1, h2, h3, h4, h5⟩ := h
  obtain ⟨b1, b2, b3, b4⟩ := blob_bounds h5
  simp only at h1 h2 h3 h4 b1 b2 b3 b4
  unfold inoV
  obtain ⟨d, hd⟩ : ∃ d : Int, d = (if dir then 1 else 0 : Int) := ⟨_, rfl⟩
  have C := nums_new [num, d, links, root, size] (by simp) (by
    intro z hz
    simp only [List.mem_cons, List.not_mem_nil, or_false] at hz
    have hd1 : 0 ≤ d ∧ d ≤ 1 := by rw [hd]; split <;> omega
    rcases hz with rfl | rfl | rfl | rfl | rfl <;> constructor <;> omega)
  have HE := Lib.hid (show layL ([num, d, links, root, size].map Int.toNat) = inoEnc ⟨num, dir, links, root, size⟩ by
    rw [hd]; cases dir <;> rfl)
  rw [HE.out] at C
  simp only [List.map_cons, List.map_nil, List.length_cons, List.length_nil, Nat.reduceAdd] at C
  obtain ⟨w0, hw0⟩ : ∃ w0, w.alloc (.cells #[.int .i64 num, .bool dir, .int .i64 links, .int .i64 root, .int .i64 size] 64) = w0 := ⟨_, rfl⟩
  have hh : w0.heap[w.heap.size]? = some (.cells #[.int .i64 num, .bool dir, .int .i64 links, .int .i64 root, .int .i64 size] 64 (0, 0)) := by rw [← hw0]; exact heap_alloc_new _ _
  have HB := Lib.hid (show Below w.heap.size w w0 by rw [← hw0]; exact (Below.refl _ w).alloc (Nat.le_refl _) _)
  have c0 : w0.cell? ⟨w.heap.size, 0, none⟩ = some (.int .i64 num) := by simp [World.cell?, hh]
  have c1 : w0.cell? ⟨w.heap.size, 1, none⟩ = some (.bool dir) := by simp [World.cell?, hh]
  have c2 : w0.cell? ⟨w.heap.size, 2, none⟩ = some (.int .i64 links) := by simp [World.cell?, hh]
  have c3 : w0.cell? ⟨w.heap.size, 3, none⟩ = some (.int .i64 root) := by simp [World.cell?, hh]
  have c4 : w0.cell? ⟨w.heap.size, 4, none⟩ = some (.int .i64 size) := by simp [World.cell?, hh]
  have HC := Lib.hid C
  clear hh h1 h2 h3 h4 h5 b1 b2 b3 b4 HE C
  cases dir with
  | true =>
    have hd' : d = 1 := hd
    clear hd
    subst hd'
    go_enter Tryz.func65, Tryz.ntmps65
    go_wp2_with fail
    refine (HC.out _ _).mono ?_
    rintro e w1 ⟨rfl, hB⟩
    go_wp2
    go_ret
    exact ⟨rfl, HB.out.trans (hB.mono HB.out.size)⟩
  | false =>
    have hd' : d = 0 := hd
    clear hd
    subst hd'
    go_enter Tryz.func65, Tryz.ntmps65
    go_wp2_with fail
    refine (HC.out _ _).mono ?_
    rintro e w1 ⟨rfl, hB⟩
    go_wp2
    go_ret
    exact ⟨rfl, HB.out.trans (hB.mono HB.out.size)⟩
noncomputable def okIB (x : Ino) : Bool := withinB x.num 1 65535 && withinB x.links 1 65535 && blobB x.root x.size
theorem okIB_iff (x : Ino) : okIB x = true ↔ InoOk x := by
  unfold okIB InoOk
  rw [Bool.and_eq_true, Bool.and_eq_true, within_iff, within_iff, blob_iff]
  constructor
  · rintro ⟨⟨⟨a, b⟩, c, d⟩, e⟩; exact ⟨a, b, c, d, e⟩
  · rintro ⟨a, b, c, d, e⟩; exact ⟨⟨⟨a, b⟩, c, d⟩, e⟩
set_option maxRecDepth 100000 in
set_option maxHeartbeats 2000000 in
theorem inoM_any (x : Ino) (w : World) :
    Calls Tryz.prog 67 #[inoV x] w fun e w' => e = .returned (.bool (okIB x)) ∧ Below w.heap.size w w' := by
  obtain ⟨num, dir, links, root, size⟩ := x
  obtain ⟨z, hz⟩ : ∃ z, okIB ⟨num, dir, links, root, size⟩ = z := ⟨_, rfl⟩
  rw [hz]
  unfold okIB at hz
  simp only at hz
  unfold inoV
  obtain ⟨w0, hw0⟩ : ∃ w0, w.alloc (.cells #[.int .i64 num, .bool dir, .int .i64 links, .int .i64 root, .int .i64 size] 64) = w0 := ⟨_, rfl⟩
  have hh : w0.heap[w.heap.size]? = some (.cells #[.int .i64 num, .bool dir, .int .i64 links, .int .i64 root, .int .i64 size] 64 (0, 0)) := by rw [← hw0]; exact heap_alloc_new _ _
  have HB := Lib.hid (show Below w.heap.size w w0 by rw [← hw0]; exact (Below.refl _ w).alloc (Nat.le_refl _) _)
  have c0 : w0.cell? ⟨w.heap.size, 0, none⟩ = some (.int .i64 num) := by simp [World.cell?, hh]
  have c2 : w0.cell? ⟨w.heap.size, 2, none⟩ = some (.int .i64 links) := by simp [World.cell?, hh]
  have c3 : w0.cell? ⟨w.heap.size, 3, none⟩ = some (.int .i64 root) := by simp [World.cell?, hh]
  have c4 : w0.cell? ⟨w.heap.size, 4, none⟩ = some (.int .i64 size) := by simp [World.cell?, hh]
  have C : ∀ (n : Int) (w : World) (v : Bool), ((n = num ∧ v = withinB num 1 65535) ∨ (n = links ∧ v = withinB links 1 65535)) → Calls Tryz.prog 36 #[.int .i64 n, .int .i64 1, .int .i64 65535] w fun e w' => e = .returned (.bool v) ∧ w = w' := by
    intro n w v hx
    rcases hx with ⟨rfl, rfl⟩ | ⟨rfl, rfl⟩
    · exact within_any _ _ _ w
    · exact within_any _ _ _ w
  have C2 := fun w => mayBlob_any root size w
  unfold blobV at C2
  generalize withinB num 1 65535 = p at *
  generalize withinB links 1 65535 = q at *
  generalize blobB root size = r at *
  have HZ := Lib.hid hz
  clear hz hh
  cases p with
  | false =>
    go_enter Tryz.func67, Tryz.ntmps67
    go_wp2_with (go_at_call 36; refine (C _ _ _ (by first | exact .inl ⟨rfl, rfl⟩ | exact .inr ⟨rfl, rfl⟩)).mono ?_; rintro e w' ⟨rfl, rfl⟩)
    go_ret
    exact ⟨by rw [← HZ.out]; rfl, HB.out⟩
  | true =>
    cases q with
    | false =>
      go_enter Tryz.func67, Tryz.ntmps67
      go_wp2_with (go_at_call 36; refine (C _ _ _ (by first | exact .inl ⟨rfl, rfl⟩ | exact .inr ⟨rfl, rfl⟩)).mono ?_; rintro e w' ⟨rfl, rfl⟩)
      go_ret
      exact ⟨by rw [← HZ.out]; rfl, HB.out⟩
    | true =>
      go_enter Tryz.func67, Tryz.ntmps67
      go_wp2_with (first
        | (go_at_call 36; refine (C _ _ _ (by first | exact .inl ⟨rfl, rfl⟩ | exact .inr ⟨rfl, rfl⟩)).mono ?_; rintro e w' ⟨rfl, rfl⟩)
        | (go_at_call 37; refine (C2 _).mono ?_; rintro e w1 ⟨rfl, hB⟩))
      go_ret
      exact ⟨by rw [← HZ.out]; rfl, HB.out.trans (hB.mono HB.out.size)⟩
theorem inoL_any (x y : Ino) (w : World) :
    Calls Tryz.prog 68 #[inoV x, inoV y] w fun e w' => e = .returned (.bool (decide (x.num < y.num))) ∧ Below w.heap.size w w' := by
  obtain ⟨num, dir, links, root, size⟩ := x
  obtain ⟨num2, dir2, links2, root2, size2⟩ := y
  unfold inoV
  go_enter Tryz.func68, Tryz.ntmps68
  go_wp2
  go_ret
  exact ⟨rfl, ((Below.refl _ w).alloc (Nat.le_refl _) _).alloc (by simp) _⟩
end Go.Proofs.YtffebghkmobeoaaGreatDoor

