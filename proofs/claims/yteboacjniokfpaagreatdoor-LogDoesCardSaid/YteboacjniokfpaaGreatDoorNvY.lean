/-
  The reference's Start; a log's Clone.
-/
import Derived.Test.YteboacjniokfpaaGreatDoorNvX
import Derived.Test.YteboacjniokfpaaGreatDoorNvM
namespace Go.Proofs.YteboacjniokfpaaGreatDoor
open Go.RowKit Go Go.Maps SM

section
variable {q r base ub : Nat} {u v0 v2 : Value} {zs : List Int} {x : LS} {w0 w w' : World}
set_option maxRecDepth 100000 in
set_option maxHeartbeats 4000000 in
theorem rstart_any (h : RL q r base ub u v0 v2 zs x w w) (hk : x.disk.Ok) (hm : x.disk.made < 800000000) (hub : ub ≤ w.heap.size) (n : Int) (hn : I64 n) :
    Calls Tryz.prog 10 #[.pointer (some ⟨q, 0, none⟩), .int .i64 n] w fun e w' => RAns q r base v0 v2 zs (x.startE n) (x.start n) w e w' := by
  obtain ⟨E, hE⟩ : ∃ E, x.startE n = E := ⟨_, rfl⟩
  obtain ⟨y, hy⟩ : ∃ y, x.start n = y := ⟨_, rfl⟩
  rw [hE, hy]
  have HL := Lib.hid h
  have c1 := RLO.c1 h.rd.obj
  by_cases h1 : n ≤ (x.gen : Int)
  · obtain rfl : 70 = E := by rw [← hE]; simp [LS.startE, LS.form, h1]
    obtain rfl : x = y := by rw [← hy]; simp [LS.start, LS.form, h1]
    clear h hE hy
    go_enter Tryz.func10, Tryz.ntmps10
    go_wp2
    go_ret
    exact ⟨ub, u, rfl, HL.out, hub⟩
  · by_cases h2 : 1099511627776 < n
    · obtain rfl : 70 = E := by rw [← hE]; simp [LS.startE, LS.form, h2]
      obtain rfl : x = y := by rw [← hy]; simp [LS.start, LS.form, h2]
      clear h hE hy
      go_enter Tryz.func10, Tryz.ntmps10
      go_wp2
      go_ret
      exact ⟨ub, u, rfl, HL.out, hub⟩
    · have hf : x.form n = false := by simp [LS.form]; omega
      have c3 := RLO.c3 h.rd.obj
      cases hd : x.dead with
      | true =>
        obtain rfl : 2 = E := by rw [← hE]; simp [LS.startE, hf, hd]
        obtain rfl : x = y := by rw [← hy]; simp [LS.start, hf, hd]
        rw [hd] at c3
        clear h hE hy hd hf
        go_enter Tryz.func10, Tryz.ntmps10
        go_wp2
        go_ret
        exact ⟨ub, u, rfl, HL.out, hub⟩
      | false =>
        rw [hd] at c3
        obtain ⟨N, rfl⟩ : ∃ N : Nat, n = (N : Int) := ⟨n.toNat, by omega⟩
        have hE2 : E = (heads N 0 x.disk).1 := by rw [← hE]; simp [LS.startE, hf, hd]
        have hY2 : y = if (heads N 0 x.disk).1 = 0 then { gen := N, recs := [], dead := false, disk := (heads N 0 x.disk).2 } else { gen := x.gen, recs := x.recs, dead := (heads N 0 x.disk).1 == 2, disk := (heads N 0 x.disk).2 } := by
          rw [← hy]; simp [LS.start, hf, hd]
        have hr := h.rd
        rw [hd] at hr
        have CX := rheads_any hr hk (by omega) (g := N) (used := 0) (by omega) (by omega)
        have hdd : headsDead N 0 x.disk false = ((heads N 0 x.disk).1 == 2) := by unfold headsDead; simp
        rw [hdd] at CX
        generalize heads N 0 x.disk = R at *
        obtain ⟨E2, s2⟩ := R
        simp only at CX hE2 hY2
        obtain rfl := hE2
        have HY := Lib.hid hY2
        clear h hE hy hd hf hdd hr hY2
        go_enter Tryz.func10, Tryz.ntmps10
        go_wp2_with fail
        refine CX.mono ?_
        rintro e w8 ⟨rfl, h8⟩
        by_cases hE0 : E = 0
        · subst hE0
          rw [show ((0 : Int) == 2) = false by decide] at h8
          have H8 := Lib.hid h8
          have f1 := RLO.fr H8.out.obj 1
          have k1 := RLO.c1 H8.out.obj
          have h9 := h8.num (n' := N)
          have H9 := Lib.hid h9
          have f2 := RLO.fr h9.obj 2
          have k2 := RLO.c2 h9.obj
          have HYe := Lib.hid (show y = { gen := N, recs := [], dead := false, disk := s2 } by rw [HY.out, if_pos rfl])
          clear h8 h9 CX
          go_wp2
          go_ret
          refine ⟨ub, .slice none 0 0, rfl, by rw [HYe.out]; exact rl_new HL.out (Below.refl _ _) H9.out ⟨rfl, .inl ⟨rfl, rfl⟩⟩ (fun _ _ e => by cases e), ?_⟩
          have := H9.out.stir.size
          have h2 := ((Stir.refl (· = q) (w8.setCell ⟨q, 1, none⟩ (.int .i64 N))).set (.inl rfl) (b := q) (i := 2) (.slice none 0 0)).size
          omega
        · have hEb : (E == 0) = false := beq_eq_false_iff_ne.2 hE0
          have HYe := Lib.hid (show y = { gen := x.gen, recs := x.recs, dead := E == 2, disk := s2 } by rw [HY.out, if_neg hE0])
          have H8 := Lib.hid h8
          clear h8 CX hE0
          go_wp2
          go_ret
          refine ⟨ub, u, rfl, ?_, Nat.le_trans hub H8.out.stir.size⟩
          rw [HYe.out]
          exact rl_end HL.out (Below.refl _ _) H8.out rfl
end
theorem infoY : (Tryz.prog.info? 5).map (fun i => (i.zero, i.size, i.bytes)) = some (some (.int .u8 0), 1, 1) := by kernel_rfl
theorem step_bytes {ops : Array Oper} {rest : List Oper} {o : Oper} {a : Act} {w : World} {Q : Exit → Act → World → Prop} (hgd : o.guard = none) (s x : Operand)
    (ho : o.op = .call { callee := .builtin .append, args := #[s, x], argTypes := #[74, 74] })
    (B : Nat) (hs : a.eval s = .slice none 0 0) (u : Value) (L : List UInt8) (hx : a.eval x = u) {ub : Nat} (hu : w.ownsRow ub 5 1 u L.length (u8c L)) (hL : L.length ≤ 1048576) (hB : B ≤ w.heap.size)
    (h : ∀ v' w', w'.ownsRow B 5 1 v' L.length (u8c L) → w.grownBy w' none → wpList Tryz.prog ops Q rest (a.put o.dst v') w') : wpList Tryz.prog ops Q (o :: rest) a w := by
  obtain ⟨i, hi, hz0, hz1, hz2⟩ := info_parts infoY
  have hown : w.ownsRow B 5 1 (.slice none 0 0) 0 [] := ⟨rfl, .inl ⟨rfl, rfl⟩⟩
  rcases hu.2 with ⟨rfl, h0⟩ | ⟨g, cap, cur, rfl, _, hg, h4, h5, h6, h7⟩
  · have hl : L = [] := List.eq_nil_of_length_eq_zero h0
    subst hl
    exact wpList_append_own_none hgd s x _ ho B _ i 1 Tryz.underlying74 hi _ 0 [] hs hown hx (h _ w hown (World.grownBy.refl _ _))
  · refine wpList_append_own w hgd s x _ ho B _ i (.int .u8 0) 1 1 Tryz.underlying74 hi hz0 hz1 hz2 rfl (by decide) _ 0 _ hs hown ⟨g, 0, none⟩ L.length cap (u8c L) hx (by simp [u8c]) (fun j y hj => ?_) (fun y hy => ?_) (by unfold maxLen; omega) (by omega) hB ?_
    · obtain ⟨h1, h2⟩ := List.getElem?_eq_some_iff.1 hj
      have hjl : j < L.length := by simpa [u8c] using h1
      have := hu.cellAt (g := g) (cap := cap) j (by omega)
      rw [Addr.add_lit, Nat.zero_add, this, hj]
    · simp only [u8c, List.mem_map] at hy
      obtain ⟨b, _, rfl⟩ := hy
      rfl
    · intro v' w' h1 h2 _
      rw [Nat.zero_add, List.nil_append] at h1
      exact h v' w' h1 h2
section
variable {base l b g m b' g' m' : Nat} {v : Value} {x : LS} {w w' : World}
set_option maxRecDepth 100000 in
set_option maxHeartbeats 4000000 in
theorem nvclone_any (h : LIs base l b g m v x w) (hd : DiskAt b' g' m' x.disk w) :
    Calls Tryz.prog 23 #[.pointer (some ⟨l, 0, none⟩), .pointer (some ⟨b', 0, none⟩)] w fun e w' => ∃ l' v', e = .returned (.pointer (some ⟨l', 0, none⟩)) ∧ LIs w.heap.size l' b' g' m' v' x w' ∧ w.heap.size ≤ l' ∧ Below w.heap.size w w' := by
  obtain ⟨av, cv, rfl⟩ := row_shape h.1.row
  have c0 := LObj.c0 h.1.obj
  have c1 := LObj.c1 h.1.obj
  have c2 := LObj.c2 h.1.obj
  have c3 := LObj.c3 h.1.obj
  obtain ⟨w1, hw1⟩ : ∃ w1, w.alloc (LObj b x.gen (.slice av (recB x.recs).length cv) x.dead) = w1 := ⟨_, rfl⟩
  have hB1 : Below w.heap.size w w1 := by rw [← hw1]; exact (Below.refl _ w).alloc (Nat.le_refl _) _
  have hn : w1.heap[w.heap.size]? = some (LObj b x.gen (.slice av (recB x.recs).length cv) x.dead) := by rw [← hw1]; exact heap_alloc_new w _
  have h1 := h.below hB1
  have d2 := LObj.c2 h1.1.obj
  have hlow := lt_of_heap hn
  have HLow := Lib.hid hlow
  have hlen := h.1.len
  have HN := Lib.hid hn
  have H1 := Lib.hid h1
  have HB1 := Lib.hid hB1
  have HD := Lib.hid hd
  have HH := Lib.hid h
  unfold LObj at hw1
  clear h hd h1 hn hB1
  go_enter Tryz.func23, Tryz.ntmps23
  go_wp2_with (at_builtin; refine step_bytes rfl _ _ rfl w1.heap.size rfl (.slice av (recB x.recs).length cv) (recB x.recs) rfl H1.out.1.row (by omega) (Nat.le_refl _) ?_
               intro v3 w3 hown3 hgrow3
               obtain ⟨a3, n3, rfl⟩ := row_shape hown3
               have hB3 : Below w1.heap.size w1 w3 := (Below.refl _ w1).grown hgrow3 (Nat.le_refl _) (fun j ej => by cases ej)
               have HB3 := Lib.hid hB3
               have HR3 := Lib.hid hown3
               have hk3 := keeps_of hB3 HN.out
               have HK3 := Lib.hid hk3
               have k0 := LObj.c0 hk3
               have k2 := LObj.c2 hk3
               have f0 := LObj.fr hk3 0
               have f2 := LObj.fr hk3 2
               clear hown3 hgrow3 hB3 hk3)
  go_ret
  have hB3 := HB1.out.trans (HB3.out.mono HB1.out.size)
  have hst : Stir (· = w.heap.size) w3 ((w3.setCell ⟨w.heap.size, 0, none⟩ (.pointer (some ⟨b', 0, none⟩))).setCell ⟨w.heap.size, 2, none⟩ (.slice a3 (recB x.recs).length n3)) := ((Stir.refl (· = w.heap.size) w3).set (.inl rfl) _).set (.inl rfl) _
  have hvb : ∀ i, (Value.slice a3 (recB x.recs).length n3).ownBlock = some i → w1.heap.size ≤ i := fun i hi => (HR3.out.lt i hi).1
  have hlw := HLow.out
  refine ⟨w.heap.size, .slice a3 (recB x.recs).length n3, rfl, ⟨⟨?_, ?_, ?_, ?_, HH.out.1.le, HH.out.1.gle⟩, HH.out.2⟩, Nat.le_refl _, ?_⟩
  · rw [heap_set (heap_set HK3.out _)]
    simp [LObj]
  · exact (owns_stay HR3.out hst (fun i hi e => by have := hvb i hi; omega)).mono (by omega)
  · exact (HD.out.below hB3).stay hst (fun i hi e => by have := HD.out.lt hi; omega)
  · intro e
    have := hvb _ e
    have h2 := HD.out.lt (k := g') (.inr (.inl rfl))
    omega
  · exact ((Stir.of_below (F := (· = w.heap.size)) hB3).trans hst (fun _ e => .inl e)).below (fun k e => Nat.le_of_eq e.symm) (Nat.le_refl _)
end
end Go.Proofs.YteboacjniokfpaaGreatDoor

