/-
  A disk: Open, Clone.
-/
import Derived.Test.YtickjomnmifmjaaDoorDskN
namespace Go.Proofs.YtickjomnmifmjaaDoor
open Go.RowKit Go Go.Maps SM

section
variable {b g cap m : Nat} {B : ByteArray} {a : Int} {s : DS} {cur : Array Value} {D : DataW Unit} {w w' : World}

theorem below_bytesWorld (w : World) (e : TypeId) (x : ByteArray) : Below w.heap.size w (Lib.bytesWorld w e x) ∧ (Lib.bytesWorld w e x).heap.size = w.heap.size + 1 := by
  have hs : (Lib.bytesWorld w e x).heap.size = w.heap.size + 1 := by simp [Lib.bytesWorld, World.freeze]
  refine ⟨⟨rfl, rfl, rfl, by omega, fun k hk => Lib.bytesWorld_at_old w e x k hk⟩, hs⟩

set_option maxRecDepth 100000 in
/-- of a disk of bytes: how many sectors it has, and that nothing is loose -/
theorem open_yes (x : ByteArray) (k : Nat) (hx : x.size = 64 * k) (h1 : 1 ≤ k) (h2 : k ≤ 16384) (w : World) :
    Calls Tryd.prog 9 #[.string x] w fun e w' => ∃ b g cap m, e = .returned (.tuple #[.pointer (some ⟨b, 0, none⟩), .int .i64 0]) ∧ w'.heap[b]? = some (DObj g cap m ⟨#[]⟩ 0 (fresh (blank k))) ∧ LooseAt m [] w' (.map []) ∧ Below w.heap.size w w' := by
  have hcv := Lib.run_convert_string_bytes (P := Tryd.prog) w 9 26 5 x Tryd.underlying9 Tryd.underlying26 Tryd.underlying5
  obtain ⟨hB1, hs1⟩ := below_bytesWorld w 5 x
  generalize Lib.bytesWorld w 5 x = w1 at hcv hB1 hs1
  generalize grownCap w x.size 0 5 = cap at hcv
  have C := fun gg cap w => over_any gg (64 * k) cap w
  have hX : ∀ gg cap, ((w1.alloc (.map #[] 0)).alloc (.cells #[.slice (some ⟨gg, 0, none⟩) (64 * k) cap, .map (some w1.heap.size), .string ⟨#[]⟩, .int .i64 0, .int .i64 0, .string ⟨#[]⟩, .bool false] 58)).heap[w1.heap.size + 1]? = some (DObj gg cap w1.heap.size ⟨#[]⟩ 0 (fresh (blank k))) := by
    intro gg cap
    have := heap_alloc_new (w1.alloc (.map #[] 0)) (.cells #[.slice (some ⟨gg, 0, none⟩) (64 * k) cap, .map (some w1.heap.size), .string ⟨#[]⟩, .int .i64 0, .int .i64 0, .string ⟨#[]⟩, .bool false] 58)
    rw [show (w1.alloc (.map #[] 0)).heap.size = w1.heap.size + 1 by simp] at this
    rw [this]
    simp [DObj, fresh, blank, none0]
  have hL : ∀ o, LooseAt w1.heap.size [] ((w1.alloc (.map #[] 0)).alloc o) (.map []) := fun o => (looseAt_new w1).below ((Below.refl _ _).alloc (Nat.le_refl _) _)
  have HX := Lib.hid hX
  have HL := Lib.hid hL
  have HB := Lib.hid hB1
  have HS := Lib.hid hs1
  have e1 : ((x.size : Int) % 64 != 0) = false := by
    have : (x.size : Int) % 64 = 0 := by omega
    rw [this]; rfl
  have e2 : ((x.size : Int)) / 64 = (k : Int) := by omega
  rw [hx] at hcv
  have hk1 : (1 : Int) ≤ (k : Int) := by omega
  have hk2 : (k : Int) ≤ 16384 := by omega
  clear hX hL hB1 hs1 hx
  go_enter Tryd.func9, Tryd.ntmps9
  go_wp2_with fail
  refine (C _ _ _).mono ?_
  rintro e w2 ⟨rfl, rfl⟩
  go_wp2
  go_ret2
  exact ⟨_, _, _, _, rfl, HX.out _ _, HL.out _, (HB.out.alloc (by have := HS.out; omega) _).alloc (by have := HS.out; simp; omega) _⟩

set_option maxRecDepth 100000 in
theorem open_no (x : ByteArray) (hs : x.size ≤ 140737488355328) (h : x.size / 64 < 1 ∨ 16384 < x.size / 64 ∨ x.size % 64 ≠ 0) (w : World) :
    Calls Tryd.prog 9 #[.string x] w fun e w' => e = .returned (.tuple #[.pointer none, .int .i64 60]) ∧ w = w' := by
  by_cases h1 : x.size / 64 < 1
  · clear h
    go_enter Tryd.func9, Tryd.ntmps9
    go_wp2
    go_ret2
    exact ⟨rfl, rfl⟩
  · by_cases h2 : 16384 < x.size / 64
    · clear h
      go_enter Tryd.func9, Tryd.ntmps9
      go_wp2
      go_ret2
      exact ⟨rfl, rfl⟩
    · have h3 : ((x.size : Int) % 64 != 0) = true := by
        have : (x.size : Int) % 64 ≠ 0 := by omega
        simpa using this
      clear h
      go_enter Tryd.func9, Tryd.ntmps9
      go_wp2
      go_ret2
      exact ⟨rfl, rfl⟩

/-! ### Clone -/
theorem clone_end {c g' cap' m' : Nat} {cur' : Array Value} {w3 : World} (h0 : DAt b g cap m B a s cur D w) (hc : w3.heap[c]? = some (DObj g cap m B a s)) (hr : RowIs g' cap' (flat s.stay) w3 cur') (hl : LooseAt m' s.loose w3 D) (h1 : g' ≠ c) (h2 : m' ≠ c) :
    DAt c g' cap' m' B a s cur' D ((w3.setCell ⟨c, 0, none⟩ (.slice (some ⟨g', 0, none⟩) (64 * s.stay.length) cap')).setCell ⟨c, 1, none⟩ (.map (some m'))) := by
  refine ⟨?_, (hr.set h1 _).set h1 _, (hl.set h2 _).set h2 _, h0.size, h0.bads⟩
  rw [heap_set (heap_set hc _)]
  simp [DObj]
/-- the disk's cells while other blocks are made and turned -/
theorem cells_other {c : Nat} (h : w.heap[b]? = some (DObj g cap m B a s)) (hb : b ≠ c) : (∀ x, (w.setCell ⟨c, 0, none⟩ x).cell? ⟨b, 0, none⟩ = some (.slice (some ⟨g, 0, none⟩) (64 * s.stay.length) cap) ∧ (w.setCell ⟨c, 0, none⟩ x).cell? ⟨b, 1, none⟩ = some (.map (some m))) ∧
    (∀ x y, ((w.setCell ⟨c, 0, none⟩ x).setCell ⟨c, 1, none⟩ y).cell? ⟨b, 0, none⟩ = some (.slice (some ⟨g, 0, none⟩) (64 * s.stay.length) cap) ∧ ((w.setCell ⟨c, 0, none⟩ x).setCell ⟨c, 1, none⟩ y).cell? ⟨b, 1, none⟩ = some (.map (some m))) :=
  ⟨fun x => ⟨DObj.c0 (heap_set_other h hb x), DObj.c1 (heap_set_other h hb x)⟩, fun x y => ⟨DObj.c0 (heap_set_other (heap_set_other h hb x) hb y), DObj.c1 (heap_set_other (heap_set_other h hb x) hb y)⟩⟩
set_option maxRecDepth 100000 in
set_option maxHeartbeats 1000000 in
theorem clone_any' (h : DiskAt b g m s w) :
    Calls Tryd.prog 33 #[.pointer (some ⟨b, 0, none⟩)] w fun e w' => ∃ b' g' m', e = .returned (.pointer (some ⟨b', 0, none⟩)) ∧ DiskAt b' g' m' s w' ∧ (w.heap.size ≤ b' ∧ w.heap.size ≤ g' ∧ w.heap.size ≤ m') ∧ Below w.heap.size w w' := by
  obtain ⟨hk, cap, B, cur, D, h⟩ := h
  have c0 := DObj.c0 h.obj
  have c1 := DObj.c1 h.obj
  have c2 := DObj.c2 h.obj
  have c3 := DObj.c3 h.obj
  have c4 := DObj.c4 h.obj
  have c5 := DObj.c5 h.obj
  have c6 := DObj.c6 h.obj
  obtain ⟨w1, hw1⟩ : ∃ w1, w.alloc (DObj g cap m B s.armZ s) = w1 := ⟨_, rfl⟩
  have hB1 : Below w.heap.size w w1 := by rw [← hw1]; exact (Below.refl _ w).alloc (Nat.le_refl _) _
  have h1 : DAt b g cap m B s.armZ s cur D w1 := h.below hB1
  have hn : w1.heap[w.heap.size]? = some (DObj g cap m B s.armZ s) := by rw [← hw1]; exact heap_alloc_new w _
  unfold DObj at hw1
  have HH := Lib.hid h
  have H1 := Lib.hid h1
  have HN := Lib.hid hn
  have HB1 := Lib.hid hB1
  have hlen : (flat s.stay).length = 64 * s.stay.length := length_flat hk.sz
  have hle := hk.le
  have hbn : b ≠ w.heap.size := by have := lt_of_heap h.obj; omega
  have a0 : w1.drew.cell? ⟨b, 0, none⟩ = _ := DObj.c0 h1.obj
  have a1 : w1.drew.cell? ⟨b, 1, none⟩ = _ := DObj.c1 h1.obj
  have RR : ∀ W, Below w1.heap.size w1 W → Calls Tryd.prog 53 #[.slice (some ⟨g, 0, none⟩) (64 * s.stay.length) cap] W fun e w' => ∃ g' cap' cur', e = .returned (.slice (some ⟨g', 0, none⟩) (64 * s.stay.length) cap') ∧ W.heap.size ≤ g' ∧ RowIs g' cap' (flat s.stay) w' cur' ∧ Below W.heap.size W w' := by
    intro W hW
    have := cloneRow (H1.out.below hW).row (by rw [hlen]; omega)
    rw [hlen] at this
    exact this
  have MM : ∀ W, Below w1.heap.size w1 W → Calls Tryd.prog 54 #[.map (some m)] W fun e w' => e = .returned (.map (some W.heap.size)) ∧ LooseAt W.heap.size s.loose w' D ∧ Below W.heap.size W w' := fun W hW => cloneMap (H1.out.below hW).loose
  have hB1d : Below w1.heap.size w1 w1.drew := (Below.refl _ _).drew
  have HD := Lib.hid hB1d
  have HL := Lib.hid (show w.heap.size < w1.heap.size from lt_of_heap HN.out)
  clear h h1 hn hB1 hB1d hlen hle
  go_enter Tryd.func33, Tryd.ntmps33
  go_wp2_with fail
  go_region_held3 (fun w' => w'.cell? ⟨b, 0, none⟩ = some (.slice (some ⟨g, 0, none⟩) (64 * s.stay.length) cap) ∧ w'.cell? ⟨b, 1, none⟩ = some (.map (some m)))
    (first | exact ⟨a0, a1⟩ | exact ⟨b0, b1⟩ | exact ⟨d0, d1⟩ | exact e0 _ | exact e1 _ _)
    (first
      | (go_at_call 53; refine (RR _ HM.out).mono ?_; rintro e w3 ⟨g3, cap3, cur3, rfl, hg3, hr3, hB3⟩; have HB3 := Lib.hid (HM.out.trans (hB3.mono HM.out.size)); have HR3 := Lib.hid hr3; have HM3 := Lib.hid (HM2.out.below hB3); have HG3 := Lib.hid (Nat.le_trans HM.out.size hg3); have k1 := (H1.out.below HB3.out).obj; have d0 := DObj.c0 k1; have d1 := DObj.c1 k1; obtain ⟨e0, e1⟩ := cells_other k1 hbn; have k2 := keeps_of HB3.out HN.out; have f0 := DObj.fr k2 0; have f1 := DObj.fr k2 1; have q0 := DObj.c0 k2; have q1 := DObj.c1 k2; have HK := Lib.hid k2; clear k1 k2 hg3 hr3 hB3)
      | (go_at_call 53; refine (RR _ HD.out).mono ?_; rintro e w2 ⟨g3, cap3, cur3, rfl, hg3, hr3, hB3⟩; have HR := Lib.hid (HD.out.trans (hB3.mono HD.out.size)); have HR2 := Lib.hid hr3; have HG3 := Lib.hid (Nat.le_trans HD.out.size hg3); have k1 := (H1.out.below HR.out).obj; have b0 := DObj.c0 k1; have b1 := DObj.c1 k1; clear k1 hg3 hr3 hB3)
      | (go_at_call 54; refine (MM _ HR.out).mono ?_; rintro e w3 ⟨rfl, hm3, hB3⟩; have HB3 := Lib.hid (HR.out.trans (hB3.mono HR.out.size)); have HM3 := Lib.hid hm3; have HR3 := Lib.hid (HR2.out.stay (Stir.of_below (F := fun _ => False) hB3) (fun h => h)); have HG4 := Lib.hid HR.out.size; have k1 := (H1.out.below HB3.out).obj; have d0 := DObj.c0 k1; have d1 := DObj.c1 k1; obtain ⟨e0, e1⟩ := cells_other k1 hbn; have k2 := keeps_of HB3.out HN.out; have f0 := DObj.fr k2 0; have f1 := DObj.fr k2 1; have q0 := DObj.c0 k2; have q1 := DObj.c1 k2; have HK := Lib.hid k2; clear k1 k2 hm3 hB3)
      | (go_at_call 54; refine (MM _ HD.out).mono ?_; rintro e w2 ⟨rfl, hm3, hB3⟩; have HM := Lib.hid (HD.out.trans (hB3.mono HD.out.size)); have HM2 := Lib.hid hm3; have HG4 := Lib.hid HD.out.size; have k1 := (H1.out.below HM.out).obj; have b0 := DObj.c0 k1; have b1 := DObj.c1 k1; clear k1 hm3 hB3))
  all_goals (
    go_wp2_with fail
    go_ret
    refine ⟨_, _, _, rfl, ⟨hk, _, _, _, _, clone_end HH.out HK.out HR3.out HM3.out (by have := HG3.out; have := HL.out; omega) (by have := HG4.out; have := HL.out; omega)⟩, ⟨Nat.le_refl _, by have := HG3.out; have := HL.out; omega, by have := HG4.out; have := HL.out; omega⟩, ?_⟩
    exact (((Stir.of_below (F := fun k => k = w.heap.size) (HB1.out.trans (HB3.out.mono HB1.out.size))).set (.inl rfl) _).set (.inl rfl) _).below (fun k e => Nat.le_of_eq e.symm) (Nat.le_refl _))
end
end Go.Proofs.YtickjomnmifmjaaDoor
