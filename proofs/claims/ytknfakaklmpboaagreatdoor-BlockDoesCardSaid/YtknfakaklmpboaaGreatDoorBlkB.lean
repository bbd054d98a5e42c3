/-
  A volume in memory; its small functions; a root is written, synced; what a sector says of one.
-/
import Derived.Test.YtknfakaklmpboaaGreatDoorBlkA
import Derived.Test.YtknfakaklmpboaaGreatDoorBlkSound
import Derived.Test.YtknfakaklmpboaaGreatDoorNB
import Derived.Test.YtknfakaklmpboaaGreatDoorCA
import Derived.Deep.RegionHeld3
namespace Go.Proofs.YtknfakaklmpboaaGreatDoor
open Go.RowKit Go Go.Maps SM

def VObj (b n : Nat) (t : ByteArray) (c : Nat) (dead : Bool) : Obj := .cells #[.pointer (some ⟨b, 0, none⟩), .int .i64 n, .string t, .pointer (some ⟨c, 0, none⟩), .bool dead] 68 (0, 0)
section
variable {l b n c : Nat} {t : ByteArray} {dead : Bool} {w : World}
theorem VObj.c0 (h : w.heap[l]? = some (VObj b n t c dead)) : w.cell? ⟨l, 0, none⟩ = some (.pointer (some ⟨b, 0, none⟩)) := by simp [World.cell?, h, VObj]
theorem VObj.c1 (h : w.heap[l]? = some (VObj b n t c dead)) : w.cell? ⟨l, 1, none⟩ = some (.int .i64 n) := by simp [World.cell?, h, VObj]
theorem VObj.c2 (h : w.heap[l]? = some (VObj b n t c dead)) : w.cell? ⟨l, 2, none⟩ = some (.string t) := by simp [World.cell?, h, VObj]
theorem VObj.c3 (h : w.heap[l]? = some (VObj b n t c dead)) : w.cell? ⟨l, 3, none⟩ = some (.pointer (some ⟨c, 0, none⟩)) := by simp [World.cell?, h, VObj]
theorem VObj.c4 (h : w.heap[l]? = some (VObj b n t c dead)) : w.cell? ⟨l, 4, none⟩ = some (.bool dead) := by simp [World.cell?, h, VObj]
theorem VObj.fr (h : w.heap[l]? = some (VObj b n t c dead)) (i : Nat) : w.frozen? ⟨l, i, none⟩ = false := by simp [World.frozen?, h, VObj]
end
/-- a volume in memory: its object, its disk, what it keeps; F: the blocks of that -/
structure VolAt (base l b g m c : Nat) (F : Nat → Prop) (x : VS) (w : World) : Prop where
  obj : w.heap[l]? = some (VObj b x.num x.text c x.dead)
  disk : DiskAt b g m x.disk w
  kept : CI.Cach base F c 32 x.kept w
  far : ∀ k, F k → ¬ Foot b g m k
  apart : ¬ F l
  tle : x.text.size ≤ 40
  nle : x.num ≤ 1099511627776
  big : badV x.disk = false
def VFoot (l b g m : Nat) (F : Nat → Prop) : Nat → Prop := fun k => k = l ∨ Foot b g m k ∨ F k
section
variable {base l b g m c : Nat} {F : Nat → Prop} {x : VS} {s : DS} {w w' : World}
theorem VolAt.stay {G : Nat → Prop} (h : VolAt base l b g m c F x w) (k : Stir G w w') (hn : ∀ i, VFoot l b g m F i → ¬ G i) : VolAt base l b g m c F x w' :=
  ⟨k.keep h.obj (hn _ (.inl rfl)), h.disk.stay k (fun _ hi => hn _ (.inr (.inl hi))), h.kept.stay k (fun _ hi => hn _ (.inr (.inr hi))), h.far, h.apart, h.tle, h.nle, h.big⟩
theorem VolAt.below (h : VolAt base l b g m c F x w) (k : Below w.heap.size w w') : VolAt base l b g m c F x w' := h.stay (Stir.of_below (F := fun _ => False) k) (fun _ _ h => h)
theorem VolAt.l_disk (h : VolAt base l b g m c F x w) : ¬ Foot b g m l := h.disk.not_cells h.obj (by decide) (by decide)
theorem VolAt.lt (h : VolAt base l b g m c F x w) {k : Nat} (hk : VFoot l b g m F k) : k < w.heap.size := by
  rcases hk with rfl | hk | hk
  · exact lt_of_heap h.obj
  · exact h.disk.lt hk
  · exact h.kept.lt hk
/-- the disk does something -/
theorem VolAt.turn {s' : DS} (h : VolAt base l b g m c F x w) (hd : DiskAt b g m s' w') (hs : Stir (Foot b g m) w w') (hb : s'.stay.length = x.disk.stay.length) : VolAt base l b g m c F { x with disk := s' } w' :=
  ⟨hs.keep h.obj h.l_disk, hd, h.kept.stay hs (fun k hk => h.far k hk), h.far, h.apart, h.tle, h.nle, by have := h.big; unfold badV blkN at *; rw [hb]; exact this⟩
/-- what is kept is turned -/
theorem VolAt.keep {L : List (Int × ByteArray)} (h : VolAt base l b g m c F x w) (hl : CI.Left base F c 32 L w w') : ∃ F', VolAt base l b g m c F' { x with kept := L } w' ∧ Stir F w w' ∧ ∀ k, F' k → F k ∨ w.heap.size ≤ k := by
  obtain ⟨F', hc, hs, hF⟩ := hl
  refine ⟨F', ⟨hs.keep h.obj h.apart, h.disk.stay hs (fun i hi hf => h.far i hf hi), hc, fun k hk hf => ?_, fun hk => ?_, h.tle, h.nle, h.big⟩, hs, hF⟩
  · rcases hF k hk with e | e
    · exact h.far k e hf
    · have := h.disk.lt hf; omega
  · rcases hF l hk with e | e
    · exact h.apart e
    · have := lt_of_heap h.obj; omega
theorem VolAt.set (h : VolAt base l b g m c F x w) (dead : Bool) : VolAt base l b g m c F { x with dead := dead } (w.setCell ⟨l, 4, none⟩ (.bool dead)) ∧ Stir (· = l) w (w.setCell ⟨l, 4, none⟩ (.bool dead)) := by
  have hs : Stir (· = l) w (w.setCell ⟨l, 4, none⟩ (.bool dead)) := (Stir.refl (· = l) w).set (.inl rfl) _
  exact ⟨⟨by rw [heap_set h.obj]; simp [VObj], h.disk.stay hs (fun i hi e => h.l_disk (e ▸ hi)), h.kept.stay hs (fun k hk e => h.apart (e ▸ hk)), h.far, h.apart, h.tle, h.nle, h.big⟩, hs⟩

theorem blocksOf_any (h : DiskAt b g m s w) :
    Calls Tryz.prog 108 #[.pointer (some ⟨b, 0, none⟩)] w fun e w' => e = .returned (.int .i64 (blkN s)) ∧ w = w' := by
  have C := sectors_any h
  have h2 := h.1.le
  unfold blkN
  generalize s.stay.length = N at *
  have HE := Lib.hid (show (N : Int).tdiv 4 = ((N / 4 : Nat) : Int) by rw [Int.tdiv_eq_ediv_of_nonneg (by omega)]; omega)
  have HE2 := Lib.hid (show (N : Int) / 4 = ((N / 4 : Nat) : Int) by omega)
  clear h
  go_enter Tryz.func108, Tryz.ntmps108
  go_wp2_with fail
  refine C.mono ?_
  rintro e w' ⟨rfl, rfl⟩
  go_wp2
  go_ret
  exact ⟨by simp, rfl⟩
theorem holds_any (h : DiskAt b g m s w) :
    Calls Tryz.prog 64 #[.pointer (some ⟨b, 0, none⟩)] w fun e w' => e = .returned (.bool (!badV s)) ∧ w = w' := by
  have C := blocksOf_any h
  unfold badV
  generalize blkN s = N at *
  clear h
  by_cases h1 : N < 8
  · have hi : ¬ (8 : Int) ≤ (N : Int) := by omega
    go_enter Tryz.func64, Tryz.ntmps64
    go_wp2_with fail
    refine C.mono ?_
    rintro e w' ⟨rfl, rfl⟩
    go_wp2
    go_ret
    exact ⟨by simp, rfl⟩
  · have hi : (8 : Int) ≤ (N : Int) := by omega
    have HE := Lib.hid (show decide ((N : Int) ≤ 4096) = (!(decide (N < 8) || decide (4096 < N))) by
      rcases Nat.lt_or_ge 4096 N with h | h
      · rw [decide_eq_false (by omega), decide_eq_false h1, decide_eq_true h]; rfl
      · rw [decide_eq_true (by omega), decide_eq_false h1, decide_eq_false (by omega)]; rfl)
    go_enter Tryz.func64, Tryz.ntmps64
    go_wp2_with fail
    refine C.mono ?_
    rintro e w' ⟨rfl, rfl⟩
    go_wp2_with fail
    refine C.mono ?_
    rintro e w' ⟨rfl, rfl⟩
    go_wp2
    go_ret
    exact ⟨by rw [← HE.out]; rfl, rfl⟩
theorem vblocks_any (h : VolAt base l b g m c F x w) :
    Calls Tryz.prog 71 #[.pointer (some ⟨l, 0, none⟩)] w fun e w' => e = .returned (.int .i64 (blkN x.disk)) ∧ w = w' := by
  have C := blocksOf_any h.disk
  have c0 := VObj.c0 h.obj
  generalize blkN x.disk = N at *
  clear h
  go_enter Tryz.func71, Tryz.ntmps71
  go_wp2_with fail
  refine C.mono ?_
  rintro e w' ⟨rfl, rfl⟩
  go_wp2
  go_ret
  exact ⟨rfl, rfl⟩
theorem vhas_any (h : VolAt base l b g m c F x w) (v : Int) :
    Calls Tryz.prog 33 #[.pointer (some ⟨l, 0, none⟩), .int .i64 v] w fun e w' => e = .returned (.bool (x.has v)) ∧ w = w' := by
  have C := vblocks_any h
  unfold VS.has
  generalize blkN x.disk = N at *
  clear h
  by_cases h1 : 1 ≤ v
  · go_enter Tryz.func33, Tryz.ntmps33
    go_wp2_with fail
    refine C.mono ?_
    rintro e w' ⟨rfl, rfl⟩
    go_wp2
    go_ret
    exact ⟨by simp [h1], rfl⟩
  · go_enter Tryz.func33, Tryz.ntmps33
    go_wp2
    go_ret
    exact ⟨by simp; intro; omega, rfl⟩
theorem vnote_any (h : VolAt base l b g m c F x w) (e : Int) :
    Calls Tryz.prog 36 #[.pointer (some ⟨l, 0, none⟩), .int .i64 e] w fun r w' => r = .returned (.int .i64 e) ∧ VolAt base l b g m c F { x with dead := e == 2 } w' ∧ Stir (· = l) w w' := by
  have f4 := VObj.fr h.obj 4
  have c4 := VObj.c4 h.obj
  obtain ⟨h1, h2⟩ := h.set (e == 2)
  have HL := Lib.hid h1
  have HS := Lib.hid h2
  clear h h1 h2
  obtain ⟨q, hq⟩ : ∃ q, (e == 2) = q := ⟨_, rfl⟩
  rw [hq] at HL HS ⊢
  go_enter Tryz.func36, Tryz.ntmps36
  go_wp2
  go_ret
  exact ⟨rfl, HL.out, HS.out⟩
theorem vroot_any (h : VolAt base l b g m c F x w) :
    Calls Tryz.prog 24 #[.pointer (some ⟨l, 0, none⟩)] w fun e w' => e = .returned (.tuple #[.string x.text, .int .i64 x.num]) ∧ VolAt base l b g m c F x w' ∧ Below w.heap.size w w' := by
  have c1 := VObj.c1 h.obj
  have c2 := VObj.c2 h.obj
  have H := Lib.hid h
  clear h
  go_enter Tryz.func24, Tryz.ntmps24
  go_wp2
  go_quiet (fail)
  go_wp2
  go_ret2
  exact ⟨rfl, H.out.below (below_drewN (Below.refl _ _) _), below_drewN (Below.refl _ _) _⟩

set_option maxRecDepth 100000 in
/-- a volume that keeps nothing yet -/
theorem vover_any {n : Nat} {t : ByteArray} (h : DiskAt b g m s w) (hb : badV s = false) (hn : n ≤ 1099511627776) (ht : t.size ≤ 40) :
    Calls Tryz.prog 67 #[.pointer (some ⟨b, 0, none⟩), numV n t] w fun e w' => ∃ l c F, e = .returned (.pointer (some ⟨l, 0, none⟩)) ∧ w.heap.size ≤ l ∧ VolAt w.heap.size l b g m c F ⟨s, t, n, [], false⟩ w' ∧ Below w.heap.size w w' := by
  obtain ⟨w0, hw0⟩ : ∃ w0, w.alloc (numO n t) = w0 := ⟨_, rfl⟩
  have HO := Lib.hid (show w0.heap[w.heap.size]? = some (numO n t) by rw [← hw0]; exact heap_alloc_new _ _)
  have HB0 := Lib.hid (show Below w.heap.size w w0 by rw [← hw0]; exact (Below.refl _ w).alloc (Nat.le_refl _) _)
  have CN := fun w => CI.new_any 32 (by decide) (by decide) w
  have CN' : ∀ w, Calls Tryz.prog 111 #[.int .i64 32] w _ := CN
  have HD := Lib.hid h
  clear h CN
  unfold numO at hw0
  unfold numV
  go_enter Tryz.func67, Tryz.ntmps67
  go_wp2_with fail
  refine (CN' _).mono ?_
  rintro e w1 ⟨c, F, rfl, hc, hB1⟩
  have HB1 := Lib.hid (HB0.out.trans (hB1.mono HB0.out.size))
  have HO1 := Lib.hid (keeps_of hB1 HO.out)
  have d1 := numO.c0 HO1.out
  have d2 := numO.c1 HO1.out
  have HC := Lib.hid hc
  clear hB1 hw0 hc CN'
  go_wp2
  go_ret
  have hBw : Below w1.heap.size w1 (w1.alloc (VObj b n t c false)) := (Below.refl _ w1).alloc (Nat.le_refl _) _
  refine ⟨w1.heap.size, c, F, rfl, HB1.out.size, ⟨?_, (HD.out.below HB1.out).below hBw, ?_, fun k hk hf => ?_, fun hk => ?_, ht, hn, hb⟩, HB1.out.trans (hBw.mono HB1.out.size)⟩
  · exact heap_alloc_new _ _
  · obtain ⟨m', r, T, nd, nx, pv, D, a1, a2, a3, a4, a5⟩ := HC.out.later hBw
    exact ⟨m', r, T, nd, nx, pv, D, a1, a2, a3, fun k hk => Nat.le_trans HB0.out.size (a4 k hk), a5⟩
  · have h1 := HC.out.low hk
    have h2 := HD.out.lt hf
    have h3 := HB0.out.size
    omega
  · have := HC.out.lt hk
    exact Nat.lt_irrefl _ this

/-- a root is written, and synced -/
theorem rootPut_def {t : ByteArray} (ht : t.size ≤ 40) (n : Nat) (s : DS) : rootPut t n s = if s.writeE ((n % 2 : Nat) : Int) (rootB t n) = 0 then ((s.write ((n % 2 : Nat) : Int) (rootB t n)).syncE, (s.write ((n % 2 : Nat) : Int) (rootB t n)).sync) else (s.writeE ((n % 2 : Nat) : Int) (rootB t n), s.write ((n % 2 : Nat) : Int) (rootB t n)) := by
  unfold rootPut put puts puts
  rw [secB_root ht]
  simp only [Nat.add_zero]
  generalize ((n % 2 : Nat) : Int) = i
  by_cases e : s.writeE i (rootB t n) = 0
  · simp [e]
  · simp [e]
theorem len_rootPut (t : ByteArray) (n : Nat) (s : DS) : (rootPut t n s).2.stay.length = s.stay.length ∧ (rootPut t n s).2.made ≤ s.made + 2 := len_put 0 1 s
set_option maxRecDepth 100000 in
set_option maxHeartbeats 2000000 in
theorem lay_any {n : Nat} {t : ByteArray} (h : DiskAt b g m s w) (hm : s.made < 1000000000) (hn : n ≤ 281474976710655) (ht : t.size ≤ 40) :
    Calls Tryz.prog 53 #[numV n t, .pointer (some ⟨b, 0, none⟩)] w fun e w' => e = .returned (.int .i64 (rootPut t n s).1) ∧ DiskAt b g m (rootPut t n s).2 w' ∧ Stir (Foot b g m) w w' := by
  obtain ⟨w0, hw0⟩ : ∃ w0, w.alloc (numO n t) = w0 := ⟨_, rfl⟩
  have hB0 : Below w.heap.size w w0 := by rw [← hw0]; exact (Below.refl _ w).alloc (Nat.le_refl _) _
  have HO := Lib.hid (show w0.drew.heap[w.heap.size]? = some (numO n t) by rw [← hw0]; exact heap_alloc_new _ _)
  have HB0 := Lib.hid hB0.drew
  have d0 := numO.c0 HO.out
  have d1 := numO.c1 HO.out
  have C1 := fun w => place_any n t hn w
  have C2 := fun w => rsector_any n t hn ht w
  rw [rootPut_def ht]
  have h2 : ((n % 2 : Nat) : Int) < 2 := by omega
  have C3 := fun w (h : DiskAt b g m s w) => write_any h (by omega) ((n % 2 : Nat) : Int) ⟨by omega, by omega⟩ (rootB t n)
  have hm2 := made_write' s ((n % 2 : Nat) : Int) (rootB t n)
  generalize rootB t n = X at *
  generalize ((n % 2 : Nat) : Int) = i at *
  have C4 := fun w (h : DiskAt b g m (s.write i X) w) => sync_any h (by omega)
  have HH := Lib.hid h
  have hq : w.heap.size < w0.heap.size := by rw [← hw0]; simp
  unfold numO at hw0
  unfold numV at C1 C2 ⊢
  obtain ⟨E, hE⟩ : ∃ E, s.writeE i X = E := ⟨_, rfl⟩
  rw [hE] at C3 ⊢
  clear h hm2 hE hB0
  by_cases e : E = 0
  · rw [if_pos e]
    subst e
    generalize (s.write i X).syncE = E2 at *
    go_enter Tryz.func53, Tryz.ntmps53
    go_wp2
    go_region_held3 (fun w' => w'.cell? ⟨w.heap.size, 0, none⟩ = some (.int .i64 (n : Int)) ∧ w'.cell? ⟨w.heap.size, 1, none⟩ = some (.string t)) (first | exact ⟨d0, d1⟩ | exact ⟨e0, e1⟩ | exact ⟨f0, f1⟩ | exact ⟨g0, g1⟩)
      (first
        | (go_at_call 99; refine (C1 _).mono ?_; rintro e w3 ⟨rfl, hB⟩; have HB3 := Lib.hid (HB0.out.trans (hB.mono HB0.out.size)); have HO3 := Lib.hid (keeps_of hB HO.out); have e0 := numO.c0 HO3.out; have e1 := numO.c1 HO3.out; clear hB)
        | (go_at_call 100; refine (C2 _).mono ?_; rintro e w4 ⟨rfl, hB⟩; have HB4 := Lib.hid (HB3.out.trans (hB.mono HB3.out.size)); have HO4 := Lib.hid (keeps_of hB HO3.out); have f0 := numO.c0 HO4.out; have f1 := numO.c1 HO4.out; clear hB)
        | (go_at_call 78; refine (C3 _ (HH.out.below HB4.out)).mono ?_; rintro e w5 ⟨rfl, h5, s5⟩; have H5 := Lib.hid h5; have S5 := Lib.hid ((Stir.of_below (F := Foot b g m) HB4.out).trans s5 (fun i e => .inl e)); have HO5 := Lib.hid (s5.keep HO4.out (fun hf => by have := HH.out.lt hf; omega)); have g0 := numO.c0 HO5.out; have g1 := numO.c1 HO5.out; clear h5 s5))
    all_goals (
      go_wp2_with fail
      refine (C4 _ H5.out).mono ?_
      rintro e w6 ⟨rfl, h6, s6⟩
      have H6 := Lib.hid h6
      have S6 := Lib.hid (S5.out.trans s6 (fun i e => .inl e))
      clear h6 s6
      go_wp2
      go_ret
      exact ⟨rfl, H6.out, S6.out⟩)
  · rw [if_neg e]
    have hne : (E != 0) = true := by simpa using e
    go_enter Tryz.func53, Tryz.ntmps53
    go_wp2
    go_region_held3 (fun w' => w'.cell? ⟨w.heap.size, 0, none⟩ = some (.int .i64 (n : Int)) ∧ w'.cell? ⟨w.heap.size, 1, none⟩ = some (.string t)) (first | exact ⟨d0, d1⟩ | exact ⟨e0, e1⟩ | exact ⟨f0, f1⟩ | exact ⟨g0, g1⟩)
      (first
        | (go_at_call 99; refine (C1 _).mono ?_; rintro e w3 ⟨rfl, hB⟩; have HB3 := Lib.hid (HB0.out.trans (hB.mono HB0.out.size)); have HO3 := Lib.hid (keeps_of hB HO.out); have e0 := numO.c0 HO3.out; have e1 := numO.c1 HO3.out; clear hB)
        | (go_at_call 100; refine (C2 _).mono ?_; rintro e w4 ⟨rfl, hB⟩; have HB4 := Lib.hid (HB3.out.trans (hB.mono HB3.out.size)); have HO4 := Lib.hid (keeps_of hB HO3.out); have f0 := numO.c0 HO4.out; have f1 := numO.c1 HO4.out; clear hB)
        | (go_at_call 78; refine (C3 _ (HH.out.below HB4.out)).mono ?_; rintro e w5 ⟨rfl, h5, s5⟩; have H5 := Lib.hid h5; have S5 := Lib.hid ((Stir.of_below (F := Foot b g m) HB4.out).trans s5 (fun i e => .inl e)); have HO5 := Lib.hid (s5.keep HO4.out (fun hf => by have := HH.out.lt hf; omega)); have g0 := numO.c0 HO5.out; have g1 := numO.c1 HO5.out; clear h5 s5))
    all_goals (
      go_wp2
      go_ret
      exact ⟨rfl, H5.out, S5.out⟩)
end
end Go.Proofs.YtknfakaklmpboaaGreatDoor

