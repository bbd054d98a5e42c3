/-
  Print: a command's line.
-/
import Derived.Test.YtmloljjllmmkoaaDoorCmdH
namespace Go.Proofs.YtmloljjllmmkoaaDoor
open Go.RowKit Go

theorem texts_ne2 {a b : ByteArray} (h : a ≠ b) : (a.toList == b.toList) = false ∧ ¬ a.toList = b.toList := by
  have hn : ¬ a.toList = b.toList := fun e => h (ba_ext (by rw [← toList_eq, ← toList_eq, e]))
  exact ⟨beq_eq_false_iff_ne.2 hn, hn⟩
/-- what Print answers -/
def PrintE (c : Cmd) (e : Ending) : Prop :=
  (∃ k : Nat, k < 9 ∧ c.kind = k ∧ MayK c k ∧ e = .returned (.tuple #[.string (bs (lineK k c)), .int .i64 0])) ∨ (¬ MayC c ∧ e = .returned (.tuple #[.string ⟨#[]⟩, .int .i64 130]))
theorem MayK.data {c : Cmd} {k : Nat} (hk : k < 9) (h : MayK c k) : c.data.size ≤ 512 := by
  have e0 : ∀ {x : ByteArray}, x = ⟨#[]⟩ → x.size ≤ 512 := fun h => by subst h; decide
  rcases below9 hk with rfl | rfl | rfl | rfl | rfl | rfl | rfl | rfl | rfl
  · exact e0 h.2.2.2
  · exact e0 h.2.2.2
  · exact h.2.2.2
  · exact e0 h.2.2.2
  · exact e0 h.2.2.2
  · exact e0 h.2.2.2
  · exact e0 h.2.2.2
  · exact e0 h.2.2.2
  · exact e0 h.2.2.2
theorem line_self {c : Cmd} {k : Nat} (hk : k < 9) (hc : c.kind = k) (h : MayK c k) : IsLine c (bs (lineK k c)) := ⟨k, hk, hc, h, by rw [bs_list]⟩
theorem not_may {c d : Cmd} {k : Nat} (hc : c.kind = k) (h : IsLine d (bs (lineK k c))) (hn : d ≠ c) : ¬ MayC c := by
  rintro ⟨j, hj, hcj, hm⟩
  have : (j : Int) = k := by rw [← hcj, hc]
  obtain rfl : j = k := by omega
  exact hn (h.uniq (line_self hj hc hm))
theorem not_may' {c : Cmd} {k : Nat} (hc : c.kind = k) (h : ∀ d, ¬ IsLine d (bs (lineK k c))) : ¬ MayC c := by
  rintro ⟨j, hj, hcj, hm⟩
  have : (j : Int) = k := by rw [← hcj, hc]
  obtain rfl : j = k := by omega
  exact h c (line_self hj hc hm)
theorem is_may {c : Cmd} {k : Nat} (hc : c.kind = k) (h : IsLine c (bs (lineK k c))) : k < 9 ∧ MayK c k := by
  obtain ⟨j, hj, hcj, hm, _⟩ := h
  have : (j : Int) = k := by rw [← hcj, hc]
  obtain rfl : j = k := by omega
  exact ⟨hj, hm⟩
theorem cmd_ne {d c : Cmd} (h : d ≠ c) : (d.kind ≠ c.kind) ∨ (d.kind = c.kind ∧ d.path ≠ c.path) ∨ (d.kind = c.kind ∧ d.path = c.path ∧ d.dest ≠ c.dest) ∨ (d.kind = c.kind ∧ d.path = c.path ∧ d.dest = c.dest ∧ d.place ≠ c.place) ∨ (d.kind = c.kind ∧ d.path = c.path ∧ d.dest = c.dest ∧ d.place = c.place ∧ d.data ≠ c.data) := by
  by_cases h1 : d.kind = c.kind
  · by_cases h2 : d.path = c.path
    · by_cases h3 : d.dest = c.dest
      · by_cases h4 : d.place = c.place
        · by_cases h5 : d.data = c.data
          · exact absurd (cmd_ext h1 h2 h3 h4 h5) h
          · exact .inr (.inr (.inr (.inr ⟨h1, h2, h3, h4, h5⟩)))
        · exact .inr (.inr (.inr (.inl ⟨h1, h2, h3, h4⟩)))
      · exact .inr (.inr (.inl ⟨h1, h2, h3⟩))
    · exact .inr (.inl ⟨h1, h2⟩)
  · exact .inl h1
set_option maxRecDepth 100000 in
set_option maxHeartbeats 8000000 in
theorem print_any (c : Cmd) (hc : CmdIn c) (hlen : ∀ k < 9, c.data.size ≤ 512 → (lineK k c).length ≤ 140737488355328) (w : World) (hg : GE w) :
    Calls Tryd.prog 13 #[cmdV c] w fun e w' => PrintE c e ∧ Below w.heap.size w w' := by
  obtain ⟨w1, hw1⟩ : ∃ w1, w.alloc (CmdObj c) = w1 := ⟨_, rfl⟩
  have hB1 : Below w.heap.size w w1 := by rw [← hw1]; exact (Below.refl _ w).alloc (Nat.le_refl _) _
  have ha1 : CmdAt c w.heap.size w1 := by rw [← hw1]; exact .new _ _
  obtain ⟨c0, c1, c2, c3, c4⟩ := ha1.cells
  have HB1 := Lib.hid hB1
  have HA1 := Lib.hid ha1
  have HG := Lib.hid hg
  have HC := Lib.hid hc
  have HLn := Lib.hid hlen
  unfold cmdV
  unfold CmdObj at hw1
  clear hB1 ha1 hg hc hlen
  by_cases h0 : c.kind < 0
  · have HE := Lib.hid (show ¬ MayC c from fun ⟨k, _, h, _⟩ => by omega)
    go_enter Tryd.func13, Tryd.ntmps13
    go_wp2
    go_ret2
    exact ⟨.inr ⟨HE.out, rfl⟩, HB1.out⟩
  · by_cases h9 : 9 ≤ c.kind
    · have HE := Lib.hid (show ¬ MayC c from fun ⟨k, _, h, _⟩ => by omega)
      go_enter Tryd.func13, Tryd.ntmps13
      go_wp2
      go_ret2
      exact ⟨.inr ⟨HE.out, rfl⟩, HB1.out⟩
    · by_cases hd : c.data.size ≤ 512
      · have hdi : ¬ (512 : Int) < (c.data.size : Int) := by omega
        obtain ⟨k, hk⟩ : ∃ k : Nat, c.kind = k := ⟨c.kind.toNat, by omega⟩
        have hk9 : k < 9 := by omega
        have h9' : ¬ (9 : Int) ≤ (k : Int) := by omega
        have h0' : ¬ (k : Int) < 0 := by omega
        have HK := Lib.hid hk
        rw [hk] at c0 hw1 ⊢
        clear h0 h9 hk
        have HD := Lib.hid hd
        clear hd
        go_enter Tryd.func13, Tryd.ntmps13
        go_upto_region 3 with fail
        have d0 : w1.drew.cell? ⟨w.heap.size, 0, none⟩ = some (.int .i64 k) := c0
        have d1 : w1.drew.cell? ⟨w.heap.size, 1, none⟩ = some (.string c.path) := c1
        have d2 : w1.drew.cell? ⟨w.heap.size, 2, none⟩ = some (.string c.dest) := c2
        have d3 : w1.drew.cell? ⟨w.heap.size, 3, none⟩ = some (.int .i64 c.place) := c3
        have d4 : w1.drew.cell? ⟨w.heap.size, 4, none⟩ = some (.string c.data) := c4
        have CF := forms_any w1.drew
        clear c0 c1 c2 c3 c4
        refine wp_region_held_drew (S := fun w' => w'.cell? ⟨w.heap.size, 0, none⟩ = some (.int .i64 k) ∧ w'.cell? ⟨w.heap.size, 1, none⟩ = some (.string c.path) ∧ w'.cell? ⟨w.heap.size, 2, none⟩ = some (.string c.dest) ∧ w'.cell? ⟨w.heap.size, 3, none⟩ = some (.int .i64 c.place) ∧ w'.cell? ⟨w.heap.size, 4, none⟩ = some (.string c.data)) (by kernel_rfl) ⟨d0, d1, d2, d3, d4⟩ (fun hHeld => ?_)
        refine take_oneH 22 (i := 1) (v := .pointer (some ⟨w.heap.size, 0, none⟩)) rfl rfl (by kernel_rfl) (by kernel_rfl) (by kernel_rfl) (fun _ _ _ h => h) (Or.inl ⟨by kernel_rfl, fun w hSw => by (go_simp)⟩) (by assumption) ?_
        simp only [Act.put, List.setIfInBounds_toArray, List.set_cons_zero, List.set_cons_succ]
        refine take_oneH 23 (i := 2) (v := .int .i64 k) rfl rfl (by kernel_rfl) (by kernel_rfl) (by kernel_rfl) (fun _ _ _ h => h) (Or.inl ⟨by kernel_rfl, fun w hSw => by (go_simp)⟩) (by assumption) ?_
        simp only [Act.put, List.setIfInBounds_toArray, List.set_cons_zero, List.set_cons_succ]
        refine take_oneH 25 (i := 4) (v := .agg #[.int .i64 k, .string c.path, .string c.dest, .int .i64 c.place, .string c.data]) rfl rfl (by kernel_rfl) (by kernel_rfl) (by kernel_rfl) (fun _ _ _ h => h) (Or.inl ⟨by kernel_rfl, fun w hSw => by (go_simp)⟩) (by assumption) ?_
        simp only [Act.put, List.setIfInBounds_toArray, List.set_cons_zero, List.set_cons_succ]
        refine wpAnyH_ready (rs := [0]) (by kernel_rfl) (by simp) ?_
        refine AllReadyH.cons rfl (fun K hK => ?_) (AllReadyH.nil)
        go_simp
        go_at_call 23
        refine CF.mono ?_
        rintro e w2 ⟨g, rfl, hfa, hB2⟩
        have HB2 := Lib.hid (HB1.out.drew.trans (hB2.mono HB1.out.size))
        have HA2 := Lib.hid (show CmdAt c w.heap.size w2 from ⟨keeps_of (w := w1.drew) hB2 HA1.out.obj⟩)
        have X := fun W => index_forms g hk9 W
        generalize formsV g = V at *
        have CL := lay_any k hk9 c HC.out HD.out (HLn.out k hk9 HD.out) (g k) w2 (hfa k hk9) (HG.out.below HB2.out)
        unfold formV cmdV at CL
        rw [HK.out] at CL
        obtain ⟨y0, y1, y2, y3, y4⟩ := HA2.out.cells
        rw [HK.out] at y0
        clear hfa hB2
        go_wp2_with fail
        refine hK.out _ _ ⟨y0, y1, y2, y3, y4⟩ (fun hHeld => ?_)
        clear hK K
        try simp only [Act.put, List.setIfInBounds_toArray, List.set_cons_zero, List.set_cons_succ]
        refine take_oneH 24 (i := 3) (v := .agg #[.string (wordK k), .slice (some ⟨g k, 0, none⟩) (fldK k).length (fldK k).length]) rfl rfl (by kernel_rfl) (by kernel_rfl) (by kernel_rfl) (fun _ _ _ h => h) (Or.inl ⟨by kernel_rfl, fun w hSw => by (go_simp)⟩) (by assumption) ?_
        simp only [Act.put, List.setIfInBounds_toArray, List.set_cons_zero, List.set_cons_succ]
        refine wpAnyH_ready (rs := [5]) (by kernel_rfl) (by simp) ?_
        refine AllReadyH.cons rfl (fun K hK => ?_) (AllReadyH.nil)
        go_simp
        go_at_call 22
        refine CL.mono ?_
        rintro e w3 ⟨rfl, hB3⟩
        have HB3 := Lib.hid (HB2.out.trans (hB3.mono HB2.out.size))
        have HA3 := Lib.hid (HA2.out.later hB3)
        obtain ⟨z0, z1, z2, z3, z4⟩ := HA3.out.cells
        rw [HK.out] at z0
        clear hB3
        go_wp2_with fail
        refine hK.out _ _ ⟨z0, z1, z2, z3, z4⟩ (fun hHeld => ?_)
        clear hK K
        try simp only [Act.put, List.setIfInBounds_toArray, List.set_cons_zero, List.set_cons_succ]
        refine take_oneH 4 (i := 6) (v := .string (bs (lineK k c))) rfl rfl (by kernel_rfl) (by kernel_rfl) (by kernel_rfl) (fun _ _ _ h => h) (Or.inl ⟨by kernel_rfl, fun w hSw => by (go_simp)⟩) (by assumption) ?_
        simp only [Act.put, List.setIfInBounds_toArray, List.set_cons_zero, List.set_cons_succ]
        refine wpAnyH_done (by kernel_rfl) ?_ _
        clear y0 y1 y2 y3 y4 hHeld X CF CL d0 d1 d2 d3 d4
        have HS := Lib.hid (show (bs (lineK k c)).size ≤ 281474976710656 by rw [bs_size]; have := HLn.out k hk9 HD.out; omega)
        have CP := parse_any (bs (lineK k c)) HS.out w3 (HG.out.below HB3.out)
        have HNo := Lib.hid (fun h => not_may' (c := c) (k := k) HK.out h)
        have HNe := Lib.hid (fun d h hn => not_may (c := c) (d := d) (k := k) HK.out h hn)
        have HYes := Lib.hid (fun h => is_may (c := c) (k := k) HK.out h)
        obtain ⟨Ln, hLn⟩ : ∃ Ln, bs (lineK k c) = Ln := ⟨_, rfl⟩
        rw [hLn] at CP HNo HNe HYes ⊢
        have HLine := Lib.hid hLn
        clear hLn HS
        go_wp2_with fail
        refine CP.mono ?_
        rintro e w4 ⟨hpe, hB4⟩
        have HB4 := Lib.hid (HB3.out.trans (hB4.mono HB3.out.size))
        have HA4 := Lib.hid (HA3.out.later hB4)
        clear hB4 CP z0 z1 z2 z3 z4
        rcases hpe with ⟨d, hd, rfl⟩ | ⟨hno, rfl⟩
        · obtain ⟨w5, hw5⟩ : ∃ w5, w4.alloc (CmdObj zeroC) = w5 := ⟨_, rfl⟩
          have ha5 : CmdAt zeroC w4.heap.size w5 := by rw [← hw5]; exact .new _ _
          have hB5 : Below w4.heap.size w4 w5 := by rw [← hw5]; exact (Below.refl _ w4).alloc (Nat.le_refl _) _
          obtain ⟨u1, u2, u3, u4, u5, ⟨e1, e2, e3, e4, e5⟩, ⟨p1, p2, p3, p4, p5⟩, ⟨f1, f2, f3, f4, f5⟩, ha6, hs6⟩ := cmd_store d ha5
          have hwl := lt_of_heap HA4.out.obj
          have hA6 := (HA4.out.later hB5).stir hs6 (by omega)
          have HB6 := Lib.hid ((HB4.out.trans (hB5.mono HB4.out.size)).trans (hs6.below (B := w.heap.size) (fun i hi => by subst hi; omega) (Nat.le_trans HB4.out.size hB5.size)))
          obtain ⟨q0, q1, q2, q3, q4⟩ := ha6.cells
          obtain ⟨r0, r1, r2, r3, r4⟩ := hA6.cells
          rw [HK.out] at r0
          have HDL := Lib.hid hd
          unfold zeroC at p1 p2 p3 p4 p5
          unfold CmdObj zeroC at hw5
          simp only at p1 p2 p3 p4 p5 hw5
          unfold cmdV
          clear ha5 hB5 ha6 hs6 hA6 hd
          go_upto_region 5 with fail
          clear e1 e2 e3 e4 e5 p1 p2 p3 p4 p5 f1 f2 f3 f4 f5 hw5
          by_cases hdc : d = c
          · have HE := Lib.hid (HYes.out (hdc ▸ HDL.out))
            subst hdc
            rw [HK.out] at q0
            go_wp2
            go_ret2
            exact ⟨.inl ⟨k, HE.out.1, HK.out, HE.out.2, by rw [HLine.out]; rfl⟩, HB6.out⟩
          · have HE := Lib.hid (HNe.out d HDL.out hdc)
            have hne := cmd_ne hdc
            rw [HK.out] at hne
            clear hdc
            rcases hne with h1 | ⟨h1, h2⟩ | ⟨h1, h2, h3⟩ | ⟨h1, h2, h3, h4⟩ | ⟨h1, h2, h3, h4, h5⟩
            · go_wp2
              go_ret2
              exact ⟨.inr ⟨HE.out, rfl⟩, HB6.out⟩
            · obtain ⟨n1, n2⟩ := texts_ne2 h2
              go_wp2
              go_ret2
              exact ⟨.inr ⟨HE.out, rfl⟩, HB6.out⟩
            · obtain ⟨n1, n2⟩ := texts_ne2 h3
              go_wp2
              go_ret2
              exact ⟨.inr ⟨HE.out, rfl⟩, HB6.out⟩
            · go_wp2
              go_ret2
              exact ⟨.inr ⟨HE.out, rfl⟩, HB6.out⟩
            · obtain ⟨n1, n2⟩ := texts_ne2 h5
              go_wp2
              go_ret2
              exact ⟨.inr ⟨HE.out, rfl⟩, HB6.out⟩
        · have HE := Lib.hid (HNo.out hno)
          have HB5 := Lib.hid HB4.out
          obtain ⟨w5, hw5⟩ : ∃ w5, w4.alloc (CmdObj zeroC) = w5 := ⟨_, rfl⟩
          have ha5 : CmdAt zeroC w4.heap.size w5 := by rw [← hw5]; exact .new _ _
          have hB5 : Below w4.heap.size w4 w5 := by rw [← hw5]; exact (Below.refl _ w4).alloc (Nat.le_refl _) _
          obtain ⟨u1, u2, u3, u4, u5, ⟨e1, e2, e3, e4, e5⟩, ⟨p1, p2, p3, p4, p5⟩, ⟨f1, f2, f3, f4, f5⟩, ha6, hs6⟩ := cmd_store zeroC ha5
          have hwl := lt_of_heap HA4.out.obj
          have HB6 := Lib.hid ((HB4.out.trans (hB5.mono HB4.out.size)).trans (hs6.below (B := w.heap.size) (fun i hi => by subst hi; omega) (Nat.le_trans HB4.out.size hB5.size)))
          unfold zeroC at p1 p2 p3 p4 p5 e1 e2 e3 e4 e5
          unfold CmdObj zeroC at hw5
          unfold cmdV zeroC
          simp only at p1 p2 p3 p4 p5 hw5 e1 e2 e3 e4 e5
          clear ha5 hB5 ha6 hs6 hno
          go_wp2
          go_ret2
          exact ⟨.inr ⟨HE.out, rfl⟩, HB6.out⟩
      · have hdi : (512 : Int) < (c.data.size : Int) := by omega
        have HE := Lib.hid (show ¬ MayC c from fun ⟨k, hk, _, h⟩ => hd (h.data hk))
        clear hd
        go_enter Tryd.func13, Tryd.ntmps13
        go_wp2
        go_ret2
        exact ⟨.inr ⟨HE.out, rfl⟩, HB1.out⟩
end Go.Proofs.YtmloljjllmmkoaaDoor

