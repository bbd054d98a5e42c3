/-
  For every three lists and every number: of names that may be, two neighbours that stand the other way round are refused, and one that stands twice; of inodes that may be, two neighbours that stand the other way round are refused; and the calls whose answers the document fixes are answered so. No condition on the lists but that they fit a machine.
-/
import Derived.Test.YtffebghkmobeoaaDoorTabX
import Derived.Test.YtffebghkmobeoaaDoorTabK
import Derived.Test.YtffebghkmobeoaaDoorTabM
namespace Go.Proofs.YtffebghkmobeoaaDoor.bturned
open Go.Proofs.YtffebghkmobeoaaDoor
open Go.ChangeShapes Go.WideShapes Go.ChangeAt Go.RowKit Go


set_option maxRecDepth 100000 in
set_option maxHeartbeats 16000000 in
theorem walk (x y z : Value) (l : List Ino) (m : List Ent) (n : List Snp) (at' : Int) (W : World) (h : LstAt inoC 5 W x l ∧ LstAt entC 2 W y m ∧ LstAt snpC 5 W z n)
    (hl : l.length ≤ 9223372036854775807 ∧ m.length ≤ 9223372036854775807 ∧ n.length ≤ 9223372036854775807) (hq2 : ∀ q ∈ m, q.name.size ≤ 140737488355328) (_ : ∀ q ∈ n, q.name.size ≤ 140737488355328) (_ : IntOk at') (hg : GE W) :
    Calls Tryd.prog 8 #[.agg #[x, y, z], .int .i64 at'] W fun e W' => e = .returned (.bool true) ∧ Below W.heap.size W W' := by
  obtain ⟨h1, h2, -⟩ := h
  obtain ⟨hl1, hl2, -⟩ := hl
  obtain ⟨n0, hn0⟩ : ∃ q, l.length = q := ⟨_, rfl⟩
  obtain ⟨n1, hn1⟩ : ∃ q, m.length = q := ⟨_, rfl⟩
  have hc1 := h1
  have hc2 := h2
  obtain ⟨ax, cx, hx, hcx⟩ := h1
  obtain ⟨ay, cy, hy, hcy⟩ := h2
  rw [hn0] at hx
  rw [hn1] at hy
  subst hx hy
  have HL1 := Lib.hid hc1
  have HL2 := Lib.hid hc2
  have HC0 := Lib.hid hcx
  have HC1 := Lib.hid hcy
  have HNN0 := Lib.hid hn0
  have HNN1 := Lib.hid hn1
  clear hcx hcy hc1 hc2 hn0 hn1
  obtain ⟨w0, hw0⟩ : ∃ w0, W.alloc (.cells #[.slice ax n0 cx, .slice ay n1 cy, z] 44) = w0 := ⟨_, rfl⟩
  have hh : w0.heap[W.heap.size]? = some (.cells #[.slice ax n0 cx, .slice ay n1 cy, z] 44 (0, 0)) := by rw [← hw0]; exact heap_alloc_new W _
  have HB0 := Lib.hid (show Below W.heap.size W w0 by rw [← hw0]; exact (Below.refl _ W).alloc (Nat.le_refl _) _)
  have HK := Lib.hid (show ∀ w', Below w0.heap.size w0 w' → w'.cell? ⟨W.heap.size, 0, none⟩ = some (.slice ax n0 cx) ∧ w'.cell? ⟨W.heap.size, 1, none⟩ = some (.slice ay n1 cy) from fun w' hB => by
    have e := (hB.block _ (lt_of_heap hh)).trans hh
    exact ⟨by simp [World.cell?, e], by simp [World.cell?, e]⟩)
  have HG := Lib.hid (show ∀ w', Below w0.heap.size w0 w' → GE w' from fun w' hB => hg.below (HB0.out.trans (hB.mono HB0.out.size)))
  have HR := Lib.hid (Below.refl w0.heap.size w0)
  obtain ⟨zz, hzz, hzz2⟩ := and_low at'
  clear hh hg hzz2
  obtain ⟨c0, c1⟩ := HK.out w0 HR.out
  go_enter Tryd.func8, Tryd.ntmps8
  go_wp2_with fail
  clear c0 c1
  have C1 := ents_any _ m hl2 hq2 w0 (HL2.out.later (HB0.out.trans (HR.out.mono HB0.out.size)))
  by_cases hm1 : May kE m
  · rw [layV_yes hm1] at C1
    refine C1.mono ?_
    rintro e s1 ⟨rfl, B1⟩
    have D1 := Lib.hid (HR.out.trans (B1.mono HR.out.size))
    have HMM1 := Lib.hid hm1
    clear B1 C1
    obtain ⟨c0, c1⟩ := HK.out s1 D1.out
    by_cases hlen : 1 < n1
    · have h4 : n1 ≤ 4096 := by rw [← HNN1.out]; exact hm1.1
      clear hm1
      obtain ⟨M, hM⟩ : ∃ M, n1 - 1 = M := ⟨_, rfl⟩
      obtain ⟨k, hk⟩ : ∃ k, zz % M = k := ⟨_, rfl⟩
      have hM0 : 0 < M := by omega
      have hkM : k < M := by rw [← hk]; exact Nat.mod_lt _ hM0
      have hk1 : k + 1 < m.length := by rw [HNN1.out]; omega
      have hk0 : k < m.length := by omega
      obtain ⟨b, off, rfl, hb, hcells⟩ := HC1.out (by intro e; rw [e] at hk0; simp at hk0)
      have HNW := Lib.hid (show ∀ W', Below W.heap.size W W' → ∀ q u, (m.flatMap entC)[q]? = some u → W'.cell? ((⟨b, off, none⟩ : Addr).add q) = some u from fun W' hB => lst_news (C := entC) (k := 2) (fun _ => rfl) (by decide) (fun j hj i hi => (World.cell?_of_block (w := W) (hB.block b hb)).trans (hcells j hj i hi)))
      obtain ⟨yy, hyy⟩ : ∃ yy, m[k] = yy := ⟨_, rfl⟩
      obtain ⟨zv, hzv⟩ : ∃ zv, m[k + 1] = zv := ⟨_, rfl⟩
      have HTN := Lib.hid (show ¬ May kE ((m.set k zv).set (k + 1) yy) by rw [← hyy, ← hzv]; exact turned_no hk1 HMM1.out kE_asymm)
      have HTW := Lib.hid (show ¬ May kE (((m.set k zv).set (k + 1) yy).set k yy) from twice_no hk1 kE_irrefl)
      have HSY := Lib.hid (show yy.name.size ≤ 140737488355328 by rw [← hyy]; exact hq2 _ (List.getElem_mem hk0))
      have HSZ := Lib.hid (show zv.name.size ≤ 140737488355328 by rw [← hzv]; exact hq2 _ (List.getElem_mem hk1))
      have HYY := Lib.hid hyy
      have HZV := Lib.hid hzv
      have hone := entC_ones m
      have hfl : (m.flatMap entC).length = n1 * 2 := by rw [← HNN1.out]; exact flat_length (C := entC) (k := 2) (fun _ => rfl) _
      have i1 : (1 : Int) < (n1 : Int) := by omega
      have i2 : (n1 : Int) - 1 = (M : Int) := by omega
      have i3 : (zz : Int) % (M : Int) = (k : Int) := by rw [← hk]; exact (Int.natCast_emod _ _).symm
      have i4 : (zz : Int).tmod (M : Int) = (k : Int) := by rw [← hk]; rfl
      have i5 : ¬ (M : Int) = 0 := by omega
      have i6 : ((M : Int) == 0) = false := by simpa using i5
      have i7 : (k : Int) < (n1 : Int) := by omega
      have i8 : (k : Int) + 1 < (n1 : Int) := by omega
      clear hyy hzv hb hcells hM hk hM0 hkM hlen
      obtain ⟨i0, hi, hz0, hz1, hz2⟩ := info_parts infoEnt
      obtain ⟨ua, hua⟩ : ∃ u, s1.alloc (.cells #[] 52) = u := ⟨_, rfl⟩
      have hown : ua.ownsRow s1.heap.size 52 2 (.slice (some ⟨s1.heap.size, 0, none⟩) 0 0) 0 [] := by rw [← hua]; exact World.ownsRow_lit s1 #[] 0 (Nat.le_refl _) (by decide) rfl
      have HUA := Lib.hid (show Below w0.heap.size w0 ua by rw [← hua]; exact D1.out.alloc D1.out.size _)
      obtain ⟨d0, d1⟩ := HK.out ua HUA.out
      have hsu : s1.heap.size ≤ ua.heap.size := by rw [← hua]; simp
      have hws := D1.out.size
      go_wp2_with (at_builtin; refine wpList_append_own _ rfl _ _ 36 rfl s1.heap.size 52 i0 (.agg #[.string ⟨#[]⟩, .int .i64 0]) 2 24 Tryd.underlying36 hi hz0 hz1 hz2 rfl (by decide) _ _ _ rfl hown ⟨b, off, none⟩ n1 cy (m.flatMap entC) rfl hfl (HNW.out ua (HB0.out.trans (HUA.out.mono HB0.out.size))) hone (by unfold maxLen; omega) (by omega) hsu ?_; intro v' w3 hown' hgrow _; have hO : w3.ownsRow s1.heap.size 52 2 v' n1 (m.flatMap entC) := (by simpa using hown'); obtain ⟨g, cp, rfl⟩ := Joins.ownsRow_form hO (by omega); have HO := Lib.hid hO; have HB3 := Lib.hid (show Below w0.heap.size w0 w3 from HUA.out.grown hgrow HUA.out.size (fun j ej => Nat.le_trans hws (hown.lt j ej).1)); have hgl := (hO.lt g rfl).2; have c0 : w3.cell? ⟨g, k * 2, none⟩ = some (.string yy.name) := own_cell (C := entC) (fun _ => rfl) HNN1.out hO hk0 HYY.out 0 (by decide); have c1 : w3.cell? ⟨g, k * 2 + 1, none⟩ = some (.int .i64 yy.num) := own_cell (C := entC) (fun _ => rfl) HNN1.out hO hk0 HYY.out 1 (by decide); obtain ⟨x0, hx0⟩ : ∃ u, w3.alloc (.cells #[.string ⟨#[]⟩, .int .i64 0] 52) = u := ⟨_, rfl⟩; have hq0 : x0.heap[w3.heap.size]? = some (.cells #[.string ⟨#[]⟩, .int .i64 0] 52 (0, 0)) := (by rw [← hx0]; exact heap_alloc_new w3 _); have z0 : x0.cell? ⟨w3.heap.size, 0, none⟩ = some (.string ⟨#[]⟩) := (by simp [World.cell?, hq0]); have f0 : x0.frozen? ⟨w3.heap.size, 0, none⟩ = false := (by simp [World.frozen?, hq0]); have z1 : x0.cell? ⟨w3.heap.size, 1, none⟩ = some (.int .i64 0) := (by simp [World.cell?, hq0]); have f1 : x0.frozen? ⟨w3.heap.size, 1, none⟩ = false := (by simp [World.frozen?, hq0]); obtain ⟨x1, hx1⟩ : ∃ u, ((x0.setCell ⟨w3.heap.size, 0, none⟩ (.string yy.name)).setCell ⟨w3.heap.size, 1, none⟩ (.int .i64 yy.num)) = u := ⟨_, rfl⟩; have HX1 := Lib.hid (show x1.heap[w3.heap.size]? = some (.cells #[.string yy.name, .int .i64 yy.num] 52 (0, 0)) by rw [← hx1]; exact (heap_set (heap_set hq0 (i := 0) (.string yy.name)) (i := 1) (.int .i64 yy.num))); have HU1 := Lib.hid (show Below w3.heap.size w3 x1 by rw [← hx1, ← hx0]; exact ((((Below.refl _ w3).alloc (Nat.le_refl _) _).setCell (p := ⟨w3.heap.size, 0, none⟩) (Nat.le_refl _) (.string yy.name)).setCell (p := ⟨w3.heap.size, 1, none⟩) (Nat.le_refl _) (.int .i64 yy.num))); have HO1 := Lib.hid (owns_later hO HU1.out); have a0 : x1.cell? ⟨g, k * 2, none⟩ = some (.string yy.name) := own_cell (C := entC) (fun _ => rfl) HNN1.out HO1.out hk0 HYY.out 0 (by decide); have a1 : x1.cell? ⟨g, k * 2 + 1, none⟩ = some (.int .i64 yy.num) := own_cell (C := entC) (fun _ => rfl) HNN1.out HO1.out hk0 HYY.out 1 (by decide); have b0 : x1.cell? ⟨g, (k + 1) * 2, none⟩ = some (.string zv.name) := own_cell (C := entC) (fun _ => rfl) HNN1.out HO1.out hk1 HZV.out 0 (by decide); have b1 : x1.cell? ⟨g, (k + 1) * 2 + 1, none⟩ = some (.int .i64 zv.num) := own_cell (C := entC) (fun _ => rfl) HNN1.out HO1.out hk1 HZV.out 1 (by decide); have e0 : x1.frozen? ⟨g, k * 2, none⟩ = false := HO1.out.frozenAt _; have e1 : x1.frozen? ⟨g, k * 2 + 1, none⟩ = false := HO1.out.frozenAt _; have hng : w3.heap.size ≠ g := (by omega); obtain ⟨x2, hx2⟩ : ∃ u, ((x1.setCell ⟨g, k * 2, none⟩ (.string zv.name)).setCell ⟨g, k * 2 + 1, none⟩ (.int .i64 zv.num)) = u := ⟨_, rfl⟩; have HO2 := Lib.hid (show x2.ownsRow s1.heap.size 52 2 (.slice (some ⟨g, 0, none⟩) n1 cp) n1 ((m.set k zv).flatMap entC) by rw [← hx2]; exact own_put2 HNN1.out HO1.out hk0 zv); have hl2 : (m.set k zv).length = n1 := (by rw [List.length_set]; exact HNN1.out); have hk12 : k + 1 < (m.set k zv).length := (by rw [List.length_set]; exact hk1); have hz12 : (m.set k zv)[k + 1] = zv := (by rw [List.getElem_set_ne (by omega)]; exact HZV.out); have g0 : x2.cell? ⟨g, (k + 1) * 2, none⟩ = some (.string zv.name) := own_cell (C := entC) (fun _ => rfl) hl2 HO2.out hk12 hz12 0 (by decide); have g1 : x2.cell? ⟨g, (k + 1) * 2 + 1, none⟩ = some (.int .i64 zv.num) := own_cell (C := entC) (fun _ => rfl) hl2 HO2.out hk12 hz12 1 (by decide); have h0' : x2.frozen? ⟨g, (k + 1) * 2, none⟩ = false := HO2.out.frozenAt _; have h1' : x2.frozen? ⟨g, (k + 1) * 2 + 1, none⟩ = false := HO2.out.frozenAt _; have hq2 : x2.heap[w3.heap.size]? = some (.cells #[.string yy.name, .int .i64 yy.num] 52 (0, 0)) := (by rw [← hx2]; exact (heap_set_other (heap_set_other HX1.out hng (.string zv.name)) hng (.int .i64 zv.num))); have m0 : x2.cell? ⟨w3.heap.size, 0, none⟩ = some (.string yy.name) := (by simp [World.cell?, hq2]); have m1 : x2.cell? ⟨w3.heap.size, 1, none⟩ = some (.int .i64 yy.num) := (by simp [World.cell?, hq2]); obtain ⟨x3, hx3⟩ : ∃ u, ((x2.setCell ⟨g, (k + 1) * 2, none⟩ (.string yy.name)).setCell ⟨g, (k + 1) * 2 + 1, none⟩ (.int .i64 yy.num)) = u := ⟨_, rfl⟩; have HO3 := Lib.hid (show x3.ownsRow s1.heap.size 52 2 (.slice (some ⟨g, 0, none⟩) n1 cp) n1 (((m.set k zv).set (k + 1) yy).flatMap entC) by rw [← hx3]; exact own_put2 hl2 HO2.out hk12 yy); have hg0 : w0.heap.size ≤ g := Nat.le_trans hws (hO.lt g rfl).1; have HB5 := Lib.hid (show Below w0.heap.size w0 x3 by rw [← hx3, ← hx2]; exact (((((HB3.out.trans (HU1.out.mono HB3.out.size)).setCell (p := ⟨g, k * 2, none⟩) hg0 (.string zv.name)).setCell (p := ⟨g, k * 2 + 1, none⟩) hg0 (.int .i64 zv.num)).setCell (p := ⟨g, (k + 1) * 2, none⟩) hg0 (.string yy.name)).setCell (p := ⟨g, (k + 1) * 2 + 1, none⟩) hg0 (.int .i64 yy.num))); clear hq0 hq2; clear hown' hgrow hown hO d0 d1)
      have hl3 : ((m.set k zv).set (k + 1) yy).length = n1 := by rw [List.length_set, List.length_set]; exact HNN1.out
      have HSM := Lib.hid (show ∀ x ∈ (m.set k zv).set (k + 1) yy, x.name.size ≤ 140737488355328 from fun x hx => (List.mem_or_eq_of_mem_set hx).elim (fun h => (List.mem_or_eq_of_mem_set h).elim (fun h => hq2 x h) (fun h => by rw [h]; exact HSZ.out)) (fun h => by rw [h]; exact HSY.out))
      have E1 := ents_any (.slice (some ⟨g, 0, none⟩) n1 cp) _ (by rw [hl3]; omega) HSM.out x3 (lst_of_owns entC_len (by decide) (by rw [hl3]; exact HO3.out))
      rw [layV_no HTN.out] at E1
      refine E1.mono ?_
      rintro e t1 ⟨rfl, B6⟩
      have HB6 := Lib.hid (HB5.out.trans (B6.mono HB5.out.size))
      have HO4 := Lib.hid (owns_later HO3.out B6)
      have hk13 : k + 1 < ((m.set k zv).set (k + 1) yy).length := by rw [hl3]; omega
      have hk03 : k < ((m.set k zv).set (k + 1) yy).length := by rw [hl3]; omega
      have hz13 : ((m.set k zv).set (k + 1) yy)[k + 1] = yy := by rw [List.getElem_set_self]
      have hz03 : ((m.set k zv).set (k + 1) yy)[k] = zv := by rw [List.getElem_set_ne (by omega), List.getElem_set_self]
      have o0 : t1.cell? ⟨g, (k + 1) * 2, none⟩ = some (.string yy.name) := own_cell (C := entC) (fun _ => rfl) hl3 HO4.out hk13 hz13 0 (by decide)
      have o1 : t1.cell? ⟨g, (k + 1) * 2 + 1, none⟩ = some (.int .i64 yy.num) := own_cell (C := entC) (fun _ => rfl) hl3 HO4.out hk13 hz13 1 (by decide)
      have q0 : t1.cell? ⟨g, k * 2, none⟩ = some (.string zv.name) := own_cell (C := entC) (fun _ => rfl) hl3 HO4.out hk03 hz03 0 (by decide)
      have q1 : t1.cell? ⟨g, k * 2 + 1, none⟩ = some (.int .i64 zv.num) := own_cell (C := entC) (fun _ => rfl) hl3 HO4.out hk03 hz03 1 (by decide)
      have r0 : t1.frozen? ⟨g, k * 2, none⟩ = false := HO4.out.frozenAt _
      have r1 : t1.frozen? ⟨g, k * 2 + 1, none⟩ = false := HO4.out.frozenAt _
      obtain ⟨t2, ht2⟩ : ∃ u, ((t1.setCell ⟨g, k * 2, none⟩ (.string yy.name)).setCell ⟨g, k * 2 + 1, none⟩ (.int .i64 yy.num)) = u := ⟨_, rfl⟩
      have HO5 := Lib.hid (show t2.ownsRow s1.heap.size 52 2 (.slice (some ⟨g, 0, none⟩) n1 cp) n1 ((((m.set k zv).set (k + 1) yy).set k yy).flatMap entC) by rw [← ht2]; exact own_put2 hl3 HO4.out hk03 yy)
      have HB7 := Lib.hid (show Below w0.heap.size w0 t2 by rw [← ht2]; exact ((HB6.out.setCell (p := ⟨g, k * 2, none⟩) hg0 (.string yy.name)).setCell (p := ⟨g, k * 2 + 1, none⟩) hg0 (.int .i64 yy.num)))
      have hl4 : (((m.set k zv).set (k + 1) yy).set k yy).length = n1 := by rw [List.length_set]; exact hl3
      have E2 := ents_any (.slice (some ⟨g, 0, none⟩) n1 cp) _ (by rw [hl4]; omega) (fun x hx => (List.mem_or_eq_of_mem_set hx).elim (HSM.out x) (fun h => by rw [h]; exact HSY.out)) t2 (lst_of_owns entC_len (by decide) (by rw [hl4]; exact HO5.out))
      rw [layV_no HTW.out] at E2
      clear B6
      go_wp2_with fail
      refine E2.mono ?_
      rintro e t3 ⟨rfl, B8⟩
      have HB8 := Lib.hid (HB7.out.trans (B8.mono HB7.out.size))
      clear B8 E1 E2
      clear i1 i2 i3 i4 i5 i6 i7 i8
      obtain ⟨c0, c1⟩ := HK.out t3 HB8.out
      go_wp2_with fail
      clear c0 c1
      have C2 := inos_any _ l hl1 t3 (HL1.out.later (HB0.out.trans (HB8.out.mono HB0.out.size)))
      by_cases hm2 : May kI l
      · rw [layV_yes hm2] at C2
        refine C2.mono ?_
        rintro e s2 ⟨rfl, B2⟩
        have D2 := Lib.hid (HB8.out.trans (B2.mono HB8.out.size))
        have HMM2 := Lib.hid hm2
        clear B2 C2
        obtain ⟨c0, c1⟩ := HK.out s2 D2.out
        by_cases hlen : 1 < n0
        · have h4 : n0 ≤ 4096 := by rw [← HNN0.out]; exact hm2.1
          clear hm2
          obtain ⟨M, hM⟩ : ∃ M, n0 - 1 = M := ⟨_, rfl⟩
          obtain ⟨k, hk⟩ : ∃ k, zz % M = k := ⟨_, rfl⟩
          have hM0 : 0 < M := by omega
          have hkM : k < M := by rw [← hk]; exact Nat.mod_lt _ hM0
          have hk1 : k + 1 < l.length := by rw [HNN0.out]; omega
          have hk0 : k < l.length := by omega
          obtain ⟨b, off, rfl, hb, hcells⟩ := HC0.out (by intro e; rw [e] at hk0; simp at hk0)
          have HNW := Lib.hid (show ∀ W', Below W.heap.size W W' → ∀ q u, (l.flatMap inoC)[q]? = some u → W'.cell? ((⟨b, off, none⟩ : Addr).add q) = some u from fun W' hB => lst_news (C := inoC) (k := 5) (fun _ => rfl) (by decide) (fun j hj i hi => (World.cell?_of_block (w := W) (hB.block b hb)).trans (hcells j hj i hi)))
          obtain ⟨yy, hyy⟩ : ∃ yy, l[k] = yy := ⟨_, rfl⟩
          obtain ⟨zv, hzv⟩ : ∃ zv, l[k + 1] = zv := ⟨_, rfl⟩
          have HTN := Lib.hid (show ¬ May kI ((l.set k zv).set (k + 1) yy) by rw [← hyy, ← hzv]; exact turned_no hk1 HMM2.out kI_asymm)
          have HYY := Lib.hid hyy
          have HZV := Lib.hid hzv
          have hone := inoC_ones l
          have hfl : (l.flatMap inoC).length = n0 * 5 := by rw [← HNN0.out]; exact flat_length (C := inoC) (k := 5) (fun _ => rfl) _
          have i1 : (1 : Int) < (n0 : Int) := by omega
          have i2 : (n0 : Int) - 1 = (M : Int) := by omega
          have i3 : (zz : Int) % (M : Int) = (k : Int) := by rw [← hk]; exact (Int.natCast_emod _ _).symm
          have i4 : (zz : Int).tmod (M : Int) = (k : Int) := by rw [← hk]; rfl
          have i5 : ¬ (M : Int) = 0 := by omega
          have i6 : ((M : Int) == 0) = false := by simpa using i5
          have i7 : (k : Int) < (n0 : Int) := by omega
          have i8 : (k : Int) + 1 < (n0 : Int) := by omega
          clear hyy hzv hb hcells hM hk hM0 hkM hlen
          obtain ⟨i0, hi, hz0, hz1, hz2⟩ := info_parts infoIno
          obtain ⟨ua, hua⟩ : ∃ u, s2.alloc (.cells #[] 34) = u := ⟨_, rfl⟩
          have hown : ua.ownsRow s2.heap.size 34 5 (.slice (some ⟨s2.heap.size, 0, none⟩) 0 0) 0 [] := by rw [← hua]; exact World.ownsRow_lit s2 #[] 0 (Nat.le_refl _) (by decide) rfl
          have HUA := Lib.hid (show Below w0.heap.size w0 ua by rw [← hua]; exact D2.out.alloc D2.out.size _)
          obtain ⟨d0, d1⟩ := HK.out ua HUA.out
          have hsu : s2.heap.size ≤ ua.heap.size := by rw [← hua]; simp
          have hws := D2.out.size
          go_wp2_with (at_builtin; refine wpList_append_own _ rfl _ _ 24 rfl s2.heap.size 34 i0 (.agg #[.int .i64 0, .bool false, .int .i64 0, .int .i64 0, .int .i64 0]) 5 40 Tryd.underlying24 hi hz0 hz1 hz2 rfl (by decide) _ _ _ rfl hown ⟨b, off, none⟩ n0 cx (l.flatMap inoC) rfl hfl (HNW.out ua (HB0.out.trans (HUA.out.mono HB0.out.size))) hone (by unfold maxLen; omega) (by omega) hsu ?_; intro v' w3 hown' hgrow _; have hO : w3.ownsRow s2.heap.size 34 5 v' n0 (l.flatMap inoC) := (by simpa using hown'); obtain ⟨g, cp, rfl⟩ := Joins.ownsRow_form hO (by omega); have HO := Lib.hid hO; have HB3 := Lib.hid (show Below w0.heap.size w0 w3 from HUA.out.grown hgrow HUA.out.size (fun j ej => Nat.le_trans hws (hown.lt j ej).1)); have hgl := (hO.lt g rfl).2; have c0 : w3.cell? ⟨g, k * 5, none⟩ = some (.int .i64 yy.num) := own_cell (C := inoC) (fun _ => rfl) HNN0.out hO hk0 HYY.out 0 (by decide); have c1 : w3.cell? ⟨g, k * 5 + 1, none⟩ = some (.bool yy.dir) := own_cell (C := inoC) (fun _ => rfl) HNN0.out hO hk0 HYY.out 1 (by decide); have c2 : w3.cell? ⟨g, k * 5 + 2, none⟩ = some (.int .i64 yy.links) := own_cell (C := inoC) (fun _ => rfl) HNN0.out hO hk0 HYY.out 2 (by decide); have c3 : w3.cell? ⟨g, k * 5 + 3, none⟩ = some (.int .i64 yy.root) := own_cell (C := inoC) (fun _ => rfl) HNN0.out hO hk0 HYY.out 3 (by decide); have c4 : w3.cell? ⟨g, k * 5 + 4, none⟩ = some (.int .i64 yy.size) := own_cell (C := inoC) (fun _ => rfl) HNN0.out hO hk0 HYY.out 4 (by decide); obtain ⟨x0, hx0⟩ : ∃ u, w3.alloc (.cells #[.int .i64 0, .bool false, .int .i64 0, .int .i64 0, .int .i64 0] 34) = u := ⟨_, rfl⟩; have hq0 : x0.heap[w3.heap.size]? = some (.cells #[.int .i64 0, .bool false, .int .i64 0, .int .i64 0, .int .i64 0] 34 (0, 0)) := (by rw [← hx0]; exact heap_alloc_new w3 _); have z0 : x0.cell? ⟨w3.heap.size, 0, none⟩ = some (.int .i64 0) := (by simp [World.cell?, hq0]); have f0 : x0.frozen? ⟨w3.heap.size, 0, none⟩ = false := (by simp [World.frozen?, hq0]); have z1 : x0.cell? ⟨w3.heap.size, 1, none⟩ = some (.bool false) := (by simp [World.cell?, hq0]); have f1 : x0.frozen? ⟨w3.heap.size, 1, none⟩ = false := (by simp [World.frozen?, hq0]); have z2 : x0.cell? ⟨w3.heap.size, 2, none⟩ = some (.int .i64 0) := (by simp [World.cell?, hq0]); have f2 : x0.frozen? ⟨w3.heap.size, 2, none⟩ = false := (by simp [World.frozen?, hq0]); have z3 : x0.cell? ⟨w3.heap.size, 3, none⟩ = some (.int .i64 0) := (by simp [World.cell?, hq0]); have f3 : x0.frozen? ⟨w3.heap.size, 3, none⟩ = false := (by simp [World.frozen?, hq0]); have z4 : x0.cell? ⟨w3.heap.size, 4, none⟩ = some (.int .i64 0) := (by simp [World.cell?, hq0]); have f4 : x0.frozen? ⟨w3.heap.size, 4, none⟩ = false := (by simp [World.frozen?, hq0]); obtain ⟨x1, hx1⟩ : ∃ u, (((((x0.setCell ⟨w3.heap.size, 0, none⟩ (.int .i64 yy.num)).setCell ⟨w3.heap.size, 1, none⟩ (.bool yy.dir)).setCell ⟨w3.heap.size, 2, none⟩ (.int .i64 yy.links)).setCell ⟨w3.heap.size, 3, none⟩ (.int .i64 yy.root)).setCell ⟨w3.heap.size, 4, none⟩ (.int .i64 yy.size)) = u := ⟨_, rfl⟩; have HX1 := Lib.hid (show x1.heap[w3.heap.size]? = some (.cells #[.int .i64 yy.num, .bool yy.dir, .int .i64 yy.links, .int .i64 yy.root, .int .i64 yy.size] 34 (0, 0)) by rw [← hx1]; exact (heap_set (heap_set (heap_set (heap_set (heap_set hq0 (i := 0) (.int .i64 yy.num)) (i := 1) (.bool yy.dir)) (i := 2) (.int .i64 yy.links)) (i := 3) (.int .i64 yy.root)) (i := 4) (.int .i64 yy.size))); have HU1 := Lib.hid (show Below w3.heap.size w3 x1 by rw [← hx1, ← hx0]; exact (((((((Below.refl _ w3).alloc (Nat.le_refl _) _).setCell (p := ⟨w3.heap.size, 0, none⟩) (Nat.le_refl _) (.int .i64 yy.num)).setCell (p := ⟨w3.heap.size, 1, none⟩) (Nat.le_refl _) (.bool yy.dir)).setCell (p := ⟨w3.heap.size, 2, none⟩) (Nat.le_refl _) (.int .i64 yy.links)).setCell (p := ⟨w3.heap.size, 3, none⟩) (Nat.le_refl _) (.int .i64 yy.root)).setCell (p := ⟨w3.heap.size, 4, none⟩) (Nat.le_refl _) (.int .i64 yy.size))); have HO1 := Lib.hid (owns_later hO HU1.out); have a0 : x1.cell? ⟨g, k * 5, none⟩ = some (.int .i64 yy.num) := own_cell (C := inoC) (fun _ => rfl) HNN0.out HO1.out hk0 HYY.out 0 (by decide); have a1 : x1.cell? ⟨g, k * 5 + 1, none⟩ = some (.bool yy.dir) := own_cell (C := inoC) (fun _ => rfl) HNN0.out HO1.out hk0 HYY.out 1 (by decide); have a2 : x1.cell? ⟨g, k * 5 + 2, none⟩ = some (.int .i64 yy.links) := own_cell (C := inoC) (fun _ => rfl) HNN0.out HO1.out hk0 HYY.out 2 (by decide); have a3 : x1.cell? ⟨g, k * 5 + 3, none⟩ = some (.int .i64 yy.root) := own_cell (C := inoC) (fun _ => rfl) HNN0.out HO1.out hk0 HYY.out 3 (by decide); have a4 : x1.cell? ⟨g, k * 5 + 4, none⟩ = some (.int .i64 yy.size) := own_cell (C := inoC) (fun _ => rfl) HNN0.out HO1.out hk0 HYY.out 4 (by decide); have b0 : x1.cell? ⟨g, (k + 1) * 5, none⟩ = some (.int .i64 zv.num) := own_cell (C := inoC) (fun _ => rfl) HNN0.out HO1.out hk1 HZV.out 0 (by decide); have b1 : x1.cell? ⟨g, (k + 1) * 5 + 1, none⟩ = some (.bool zv.dir) := own_cell (C := inoC) (fun _ => rfl) HNN0.out HO1.out hk1 HZV.out 1 (by decide); have b2 : x1.cell? ⟨g, (k + 1) * 5 + 2, none⟩ = some (.int .i64 zv.links) := own_cell (C := inoC) (fun _ => rfl) HNN0.out HO1.out hk1 HZV.out 2 (by decide); have b3 : x1.cell? ⟨g, (k + 1) * 5 + 3, none⟩ = some (.int .i64 zv.root) := own_cell (C := inoC) (fun _ => rfl) HNN0.out HO1.out hk1 HZV.out 3 (by decide); have b4 : x1.cell? ⟨g, (k + 1) * 5 + 4, none⟩ = some (.int .i64 zv.size) := own_cell (C := inoC) (fun _ => rfl) HNN0.out HO1.out hk1 HZV.out 4 (by decide); have e0 : x1.frozen? ⟨g, k * 5, none⟩ = false := HO1.out.frozenAt _; have e1 : x1.frozen? ⟨g, k * 5 + 1, none⟩ = false := HO1.out.frozenAt _; have e2 : x1.frozen? ⟨g, k * 5 + 2, none⟩ = false := HO1.out.frozenAt _; have e3 : x1.frozen? ⟨g, k * 5 + 3, none⟩ = false := HO1.out.frozenAt _; have e4 : x1.frozen? ⟨g, k * 5 + 4, none⟩ = false := HO1.out.frozenAt _; have hng : w3.heap.size ≠ g := (by omega); obtain ⟨x2, hx2⟩ : ∃ u, (((((x1.setCell ⟨g, k * 5, none⟩ (.int .i64 zv.num)).setCell ⟨g, k * 5 + 1, none⟩ (.bool zv.dir)).setCell ⟨g, k * 5 + 2, none⟩ (.int .i64 zv.links)).setCell ⟨g, k * 5 + 3, none⟩ (.int .i64 zv.root)).setCell ⟨g, k * 5 + 4, none⟩ (.int .i64 zv.size)) = u := ⟨_, rfl⟩; have HO2 := Lib.hid (show x2.ownsRow s2.heap.size 34 5 (.slice (some ⟨g, 0, none⟩) n0 cp) n0 ((l.set k zv).flatMap inoC) by rw [← hx2]; exact own_put5 HNN0.out HO1.out hk0 zv); have hl2 : (l.set k zv).length = n0 := (by rw [List.length_set]; exact HNN0.out); have hk12 : k + 1 < (l.set k zv).length := (by rw [List.length_set]; exact hk1); have hz12 : (l.set k zv)[k + 1] = zv := (by rw [List.getElem_set_ne (by omega)]; exact HZV.out); have g0 : x2.cell? ⟨g, (k + 1) * 5, none⟩ = some (.int .i64 zv.num) := own_cell (C := inoC) (fun _ => rfl) hl2 HO2.out hk12 hz12 0 (by decide); have g1 : x2.cell? ⟨g, (k + 1) * 5 + 1, none⟩ = some (.bool zv.dir) := own_cell (C := inoC) (fun _ => rfl) hl2 HO2.out hk12 hz12 1 (by decide); have g2 : x2.cell? ⟨g, (k + 1) * 5 + 2, none⟩ = some (.int .i64 zv.links) := own_cell (C := inoC) (fun _ => rfl) hl2 HO2.out hk12 hz12 2 (by decide); have g3 : x2.cell? ⟨g, (k + 1) * 5 + 3, none⟩ = some (.int .i64 zv.root) := own_cell (C := inoC) (fun _ => rfl) hl2 HO2.out hk12 hz12 3 (by decide); have g4 : x2.cell? ⟨g, (k + 1) * 5 + 4, none⟩ = some (.int .i64 zv.size) := own_cell (C := inoC) (fun _ => rfl) hl2 HO2.out hk12 hz12 4 (by decide); have h0' : x2.frozen? ⟨g, (k + 1) * 5, none⟩ = false := HO2.out.frozenAt _; have h1' : x2.frozen? ⟨g, (k + 1) * 5 + 1, none⟩ = false := HO2.out.frozenAt _; have h2' : x2.frozen? ⟨g, (k + 1) * 5 + 2, none⟩ = false := HO2.out.frozenAt _; have h3' : x2.frozen? ⟨g, (k + 1) * 5 + 3, none⟩ = false := HO2.out.frozenAt _; have h4' : x2.frozen? ⟨g, (k + 1) * 5 + 4, none⟩ = false := HO2.out.frozenAt _; have hq2 : x2.heap[w3.heap.size]? = some (.cells #[.int .i64 yy.num, .bool yy.dir, .int .i64 yy.links, .int .i64 yy.root, .int .i64 yy.size] 34 (0, 0)) := (by rw [← hx2]; exact (heap_set_other (heap_set_other (heap_set_other (heap_set_other (heap_set_other HX1.out hng (.int .i64 zv.num)) hng (.bool zv.dir)) hng (.int .i64 zv.links)) hng (.int .i64 zv.root)) hng (.int .i64 zv.size))); have m0 : x2.cell? ⟨w3.heap.size, 0, none⟩ = some (.int .i64 yy.num) := (by simp [World.cell?, hq2]); have m1 : x2.cell? ⟨w3.heap.size, 1, none⟩ = some (.bool yy.dir) := (by simp [World.cell?, hq2]); have m2 : x2.cell? ⟨w3.heap.size, 2, none⟩ = some (.int .i64 yy.links) := (by simp [World.cell?, hq2]); have m3 : x2.cell? ⟨w3.heap.size, 3, none⟩ = some (.int .i64 yy.root) := (by simp [World.cell?, hq2]); have m4 : x2.cell? ⟨w3.heap.size, 4, none⟩ = some (.int .i64 yy.size) := (by simp [World.cell?, hq2]); obtain ⟨x3, hx3⟩ : ∃ u, (((((x2.setCell ⟨g, (k + 1) * 5, none⟩ (.int .i64 yy.num)).setCell ⟨g, (k + 1) * 5 + 1, none⟩ (.bool yy.dir)).setCell ⟨g, (k + 1) * 5 + 2, none⟩ (.int .i64 yy.links)).setCell ⟨g, (k + 1) * 5 + 3, none⟩ (.int .i64 yy.root)).setCell ⟨g, (k + 1) * 5 + 4, none⟩ (.int .i64 yy.size)) = u := ⟨_, rfl⟩; have HO3 := Lib.hid (show x3.ownsRow s2.heap.size 34 5 (.slice (some ⟨g, 0, none⟩) n0 cp) n0 (((l.set k zv).set (k + 1) yy).flatMap inoC) by rw [← hx3]; exact own_put5 hl2 HO2.out hk12 yy); have hg0 : w0.heap.size ≤ g := Nat.le_trans hws (hO.lt g rfl).1; have HB5 := Lib.hid (show Below w0.heap.size w0 x3 by rw [← hx3, ← hx2]; exact (((((((((((HB3.out.trans (HU1.out.mono HB3.out.size)).setCell (p := ⟨g, k * 5, none⟩) hg0 (.int .i64 zv.num)).setCell (p := ⟨g, k * 5 + 1, none⟩) hg0 (.bool zv.dir)).setCell (p := ⟨g, k * 5 + 2, none⟩) hg0 (.int .i64 zv.links)).setCell (p := ⟨g, k * 5 + 3, none⟩) hg0 (.int .i64 zv.root)).setCell (p := ⟨g, k * 5 + 4, none⟩) hg0 (.int .i64 zv.size)).setCell (p := ⟨g, (k + 1) * 5, none⟩) hg0 (.int .i64 yy.num)).setCell (p := ⟨g, (k + 1) * 5 + 1, none⟩) hg0 (.bool yy.dir)).setCell (p := ⟨g, (k + 1) * 5 + 2, none⟩) hg0 (.int .i64 yy.links)).setCell (p := ⟨g, (k + 1) * 5 + 3, none⟩) hg0 (.int .i64 yy.root)).setCell (p := ⟨g, (k + 1) * 5 + 4, none⟩) hg0 (.int .i64 yy.size))); clear hq0 hq2; clear hown' hgrow hown hO d0 d1)
          have hl3 : ((l.set k zv).set (k + 1) yy).length = n0 := by rw [List.length_set, List.length_set]; exact HNN0.out
          have E1 := inos_any (.slice (some ⟨g, 0, none⟩) n0 cp) _ (by rw [hl3]; omega) x3 (lst_of_owns inoC_len (by decide) (by rw [hl3]; exact HO3.out))
          rw [layV_no HTN.out] at E1
          refine E1.mono ?_
          rintro e t1 ⟨rfl, B6⟩
          have HB6 := Lib.hid (HB5.out.trans (B6.mono HB5.out.size))
          clear B6 E1
          clear i1 i2 i3 i4 i5 i6 i7 i8
          obtain ⟨c0, c1⟩ := HK.out t1 HB6.out
          go_wp2_with fail
          clear c0 c1
          refine (fixed_any t1 (HG.out t1 HB6.out)).mono ?_
          rintro e wz ⟨rfl, BZ⟩
          go_wp2_with fail
          go_ret
          exact ⟨rfl, HB0.out.trans ((HB6.out.trans (BZ.mono HB6.out.size)).mono HB0.out.size)⟩
        · have hlen1 : ¬ (1 : Int) < (n0 : Int) := by omega
          clear hm2 hlen
          go_wp2_with fail
          clear c0 c1
          refine (fixed_any s2 (HG.out s2 D2.out)).mono ?_
          rintro e wz ⟨rfl, BZ⟩
          go_wp2_with fail
          go_ret
          exact ⟨rfl, HB0.out.trans ((D2.out.trans (BZ.mono D2.out.size)).mono HB0.out.size)⟩
      · rw [layV_no hm2] at C2
        refine C2.mono ?_
        rintro e s2 ⟨rfl, B2⟩
        have D2 := Lib.hid (HB8.out.trans (B2.mono HB8.out.size))
        clear B2 C2
        obtain ⟨c0, c1⟩ := HK.out s2 D2.out
        go_wp2_with fail
        clear c0 c1
        refine (fixed_any s2 (HG.out s2 D2.out)).mono ?_
        rintro e wz ⟨rfl, BZ⟩
        go_wp2_with fail
        go_ret
        exact ⟨rfl, HB0.out.trans ((D2.out.trans (BZ.mono D2.out.size)).mono HB0.out.size)⟩
    · have hlen1 : ¬ (1 : Int) < (n1 : Int) := by omega
      clear hm1 hlen
      go_wp2_with fail
      clear c0 c1
      have C3 := inos_any _ l hl1 s1 (HL1.out.later (HB0.out.trans (D1.out.mono HB0.out.size)))
      by_cases hm3 : May kI l
      · rw [layV_yes hm3] at C3
        refine C3.mono ?_
        rintro e s3 ⟨rfl, B3⟩
        have D3 := Lib.hid (D1.out.trans (B3.mono D1.out.size))
        have HMM3 := Lib.hid hm3
        clear B3 C3
        obtain ⟨c0, c1⟩ := HK.out s3 D3.out
        by_cases hlen : 1 < n0
        · have h4 : n0 ≤ 4096 := by rw [← HNN0.out]; exact hm3.1
          clear hm3
          obtain ⟨M, hM⟩ : ∃ M, n0 - 1 = M := ⟨_, rfl⟩
          obtain ⟨k, hk⟩ : ∃ k, zz % M = k := ⟨_, rfl⟩
          have hM0 : 0 < M := by omega
          have hkM : k < M := by rw [← hk]; exact Nat.mod_lt _ hM0
          have hk1 : k + 1 < l.length := by rw [HNN0.out]; omega
          have hk0 : k < l.length := by omega
          obtain ⟨b, off, rfl, hb, hcells⟩ := HC0.out (by intro e; rw [e] at hk0; simp at hk0)
          have HNW := Lib.hid (show ∀ W', Below W.heap.size W W' → ∀ q u, (l.flatMap inoC)[q]? = some u → W'.cell? ((⟨b, off, none⟩ : Addr).add q) = some u from fun W' hB => lst_news (C := inoC) (k := 5) (fun _ => rfl) (by decide) (fun j hj i hi => (World.cell?_of_block (w := W) (hB.block b hb)).trans (hcells j hj i hi)))
          obtain ⟨yy, hyy⟩ : ∃ yy, l[k] = yy := ⟨_, rfl⟩
          obtain ⟨zv, hzv⟩ : ∃ zv, l[k + 1] = zv := ⟨_, rfl⟩
          have HTN := Lib.hid (show ¬ May kI ((l.set k zv).set (k + 1) yy) by rw [← hyy, ← hzv]; exact turned_no hk1 HMM3.out kI_asymm)
          have HYY := Lib.hid hyy
          have HZV := Lib.hid hzv
          have hone := inoC_ones l
          have hfl : (l.flatMap inoC).length = n0 * 5 := by rw [← HNN0.out]; exact flat_length (C := inoC) (k := 5) (fun _ => rfl) _
          have i1 : (1 : Int) < (n0 : Int) := by omega
          have i2 : (n0 : Int) - 1 = (M : Int) := by omega
          have i3 : (zz : Int) % (M : Int) = (k : Int) := by rw [← hk]; exact (Int.natCast_emod _ _).symm
          have i4 : (zz : Int).tmod (M : Int) = (k : Int) := by rw [← hk]; rfl
          have i5 : ¬ (M : Int) = 0 := by omega
          have i6 : ((M : Int) == 0) = false := by simpa using i5
          have i7 : (k : Int) < (n0 : Int) := by omega
          have i8 : (k : Int) + 1 < (n0 : Int) := by omega
          clear hyy hzv hb hcells hM hk hM0 hkM hlen
          obtain ⟨i0, hi, hz0, hz1, hz2⟩ := info_parts infoIno
          obtain ⟨ua, hua⟩ : ∃ u, s3.alloc (.cells #[] 34) = u := ⟨_, rfl⟩
          have hown : ua.ownsRow s3.heap.size 34 5 (.slice (some ⟨s3.heap.size, 0, none⟩) 0 0) 0 [] := by rw [← hua]; exact World.ownsRow_lit s3 #[] 0 (Nat.le_refl _) (by decide) rfl
          have HUA := Lib.hid (show Below w0.heap.size w0 ua by rw [← hua]; exact D3.out.alloc D3.out.size _)
          obtain ⟨d0, d1⟩ := HK.out ua HUA.out
          have hsu : s3.heap.size ≤ ua.heap.size := by rw [← hua]; simp
          have hws := D3.out.size
          go_wp2_with (at_builtin; refine wpList_append_own _ rfl _ _ 24 rfl s3.heap.size 34 i0 (.agg #[.int .i64 0, .bool false, .int .i64 0, .int .i64 0, .int .i64 0]) 5 40 Tryd.underlying24 hi hz0 hz1 hz2 rfl (by decide) _ _ _ rfl hown ⟨b, off, none⟩ n0 cx (l.flatMap inoC) rfl hfl (HNW.out ua (HB0.out.trans (HUA.out.mono HB0.out.size))) hone (by unfold maxLen; omega) (by omega) hsu ?_; intro v' w3 hown' hgrow _; have hO : w3.ownsRow s3.heap.size 34 5 v' n0 (l.flatMap inoC) := (by simpa using hown'); obtain ⟨g, cp, rfl⟩ := Joins.ownsRow_form hO (by omega); have HO := Lib.hid hO; have HB3 := Lib.hid (show Below w0.heap.size w0 w3 from HUA.out.grown hgrow HUA.out.size (fun j ej => Nat.le_trans hws (hown.lt j ej).1)); have hgl := (hO.lt g rfl).2; have c0 : w3.cell? ⟨g, k * 5, none⟩ = some (.int .i64 yy.num) := own_cell (C := inoC) (fun _ => rfl) HNN0.out hO hk0 HYY.out 0 (by decide); have c1 : w3.cell? ⟨g, k * 5 + 1, none⟩ = some (.bool yy.dir) := own_cell (C := inoC) (fun _ => rfl) HNN0.out hO hk0 HYY.out 1 (by decide); have c2 : w3.cell? ⟨g, k * 5 + 2, none⟩ = some (.int .i64 yy.links) := own_cell (C := inoC) (fun _ => rfl) HNN0.out hO hk0 HYY.out 2 (by decide); have c3 : w3.cell? ⟨g, k * 5 + 3, none⟩ = some (.int .i64 yy.root) := own_cell (C := inoC) (fun _ => rfl) HNN0.out hO hk0 HYY.out 3 (by decide); have c4 : w3.cell? ⟨g, k * 5 + 4, none⟩ = some (.int .i64 yy.size) := own_cell (C := inoC) (fun _ => rfl) HNN0.out hO hk0 HYY.out 4 (by decide); obtain ⟨x0, hx0⟩ : ∃ u, w3.alloc (.cells #[.int .i64 0, .bool false, .int .i64 0, .int .i64 0, .int .i64 0] 34) = u := ⟨_, rfl⟩; have hq0 : x0.heap[w3.heap.size]? = some (.cells #[.int .i64 0, .bool false, .int .i64 0, .int .i64 0, .int .i64 0] 34 (0, 0)) := (by rw [← hx0]; exact heap_alloc_new w3 _); have z0 : x0.cell? ⟨w3.heap.size, 0, none⟩ = some (.int .i64 0) := (by simp [World.cell?, hq0]); have f0 : x0.frozen? ⟨w3.heap.size, 0, none⟩ = false := (by simp [World.frozen?, hq0]); have z1 : x0.cell? ⟨w3.heap.size, 1, none⟩ = some (.bool false) := (by simp [World.cell?, hq0]); have f1 : x0.frozen? ⟨w3.heap.size, 1, none⟩ = false := (by simp [World.frozen?, hq0]); have z2 : x0.cell? ⟨w3.heap.size, 2, none⟩ = some (.int .i64 0) := (by simp [World.cell?, hq0]); have f2 : x0.frozen? ⟨w3.heap.size, 2, none⟩ = false := (by simp [World.frozen?, hq0]); have z3 : x0.cell? ⟨w3.heap.size, 3, none⟩ = some (.int .i64 0) := (by simp [World.cell?, hq0]); have f3 : x0.frozen? ⟨w3.heap.size, 3, none⟩ = false := (by simp [World.frozen?, hq0]); have z4 : x0.cell? ⟨w3.heap.size, 4, none⟩ = some (.int .i64 0) := (by simp [World.cell?, hq0]); have f4 : x0.frozen? ⟨w3.heap.size, 4, none⟩ = false := (by simp [World.frozen?, hq0]); obtain ⟨x1, hx1⟩ : ∃ u, (((((x0.setCell ⟨w3.heap.size, 0, none⟩ (.int .i64 yy.num)).setCell ⟨w3.heap.size, 1, none⟩ (.bool yy.dir)).setCell ⟨w3.heap.size, 2, none⟩ (.int .i64 yy.links)).setCell ⟨w3.heap.size, 3, none⟩ (.int .i64 yy.root)).setCell ⟨w3.heap.size, 4, none⟩ (.int .i64 yy.size)) = u := ⟨_, rfl⟩; have HX1 := Lib.hid (show x1.heap[w3.heap.size]? = some (.cells #[.int .i64 yy.num, .bool yy.dir, .int .i64 yy.links, .int .i64 yy.root, .int .i64 yy.size] 34 (0, 0)) by rw [← hx1]; exact (heap_set (heap_set (heap_set (heap_set (heap_set hq0 (i := 0) (.int .i64 yy.num)) (i := 1) (.bool yy.dir)) (i := 2) (.int .i64 yy.links)) (i := 3) (.int .i64 yy.root)) (i := 4) (.int .i64 yy.size))); have HU1 := Lib.hid (show Below w3.heap.size w3 x1 by rw [← hx1, ← hx0]; exact (((((((Below.refl _ w3).alloc (Nat.le_refl _) _).setCell (p := ⟨w3.heap.size, 0, none⟩) (Nat.le_refl _) (.int .i64 yy.num)).setCell (p := ⟨w3.heap.size, 1, none⟩) (Nat.le_refl _) (.bool yy.dir)).setCell (p := ⟨w3.heap.size, 2, none⟩) (Nat.le_refl _) (.int .i64 yy.links)).setCell (p := ⟨w3.heap.size, 3, none⟩) (Nat.le_refl _) (.int .i64 yy.root)).setCell (p := ⟨w3.heap.size, 4, none⟩) (Nat.le_refl _) (.int .i64 yy.size))); have HO1 := Lib.hid (owns_later hO HU1.out); have a0 : x1.cell? ⟨g, k * 5, none⟩ = some (.int .i64 yy.num) := own_cell (C := inoC) (fun _ => rfl) HNN0.out HO1.out hk0 HYY.out 0 (by decide); have a1 : x1.cell? ⟨g, k * 5 + 1, none⟩ = some (.bool yy.dir) := own_cell (C := inoC) (fun _ => rfl) HNN0.out HO1.out hk0 HYY.out 1 (by decide); have a2 : x1.cell? ⟨g, k * 5 + 2, none⟩ = some (.int .i64 yy.links) := own_cell (C := inoC) (fun _ => rfl) HNN0.out HO1.out hk0 HYY.out 2 (by decide); have a3 : x1.cell? ⟨g, k * 5 + 3, none⟩ = some (.int .i64 yy.root) := own_cell (C := inoC) (fun _ => rfl) HNN0.out HO1.out hk0 HYY.out 3 (by decide); have a4 : x1.cell? ⟨g, k * 5 + 4, none⟩ = some (.int .i64 yy.size) := own_cell (C := inoC) (fun _ => rfl) HNN0.out HO1.out hk0 HYY.out 4 (by decide); have b0 : x1.cell? ⟨g, (k + 1) * 5, none⟩ = some (.int .i64 zv.num) := own_cell (C := inoC) (fun _ => rfl) HNN0.out HO1.out hk1 HZV.out 0 (by decide); have b1 : x1.cell? ⟨g, (k + 1) * 5 + 1, none⟩ = some (.bool zv.dir) := own_cell (C := inoC) (fun _ => rfl) HNN0.out HO1.out hk1 HZV.out 1 (by decide); have b2 : x1.cell? ⟨g, (k + 1) * 5 + 2, none⟩ = some (.int .i64 zv.links) := own_cell (C := inoC) (fun _ => rfl) HNN0.out HO1.out hk1 HZV.out 2 (by decide); have b3 : x1.cell? ⟨g, (k + 1) * 5 + 3, none⟩ = some (.int .i64 zv.root) := own_cell (C := inoC) (fun _ => rfl) HNN0.out HO1.out hk1 HZV.out 3 (by decide); have b4 : x1.cell? ⟨g, (k + 1) * 5 + 4, none⟩ = some (.int .i64 zv.size) := own_cell (C := inoC) (fun _ => rfl) HNN0.out HO1.out hk1 HZV.out 4 (by decide); have e0 : x1.frozen? ⟨g, k * 5, none⟩ = false := HO1.out.frozenAt _; have e1 : x1.frozen? ⟨g, k * 5 + 1, none⟩ = false := HO1.out.frozenAt _; have e2 : x1.frozen? ⟨g, k * 5 + 2, none⟩ = false := HO1.out.frozenAt _; have e3 : x1.frozen? ⟨g, k * 5 + 3, none⟩ = false := HO1.out.frozenAt _; have e4 : x1.frozen? ⟨g, k * 5 + 4, none⟩ = false := HO1.out.frozenAt _; have hng : w3.heap.size ≠ g := (by omega); obtain ⟨x2, hx2⟩ : ∃ u, (((((x1.setCell ⟨g, k * 5, none⟩ (.int .i64 zv.num)).setCell ⟨g, k * 5 + 1, none⟩ (.bool zv.dir)).setCell ⟨g, k * 5 + 2, none⟩ (.int .i64 zv.links)).setCell ⟨g, k * 5 + 3, none⟩ (.int .i64 zv.root)).setCell ⟨g, k * 5 + 4, none⟩ (.int .i64 zv.size)) = u := ⟨_, rfl⟩; have HO2 := Lib.hid (show x2.ownsRow s3.heap.size 34 5 (.slice (some ⟨g, 0, none⟩) n0 cp) n0 ((l.set k zv).flatMap inoC) by rw [← hx2]; exact own_put5 HNN0.out HO1.out hk0 zv); have hl2 : (l.set k zv).length = n0 := (by rw [List.length_set]; exact HNN0.out); have hk12 : k + 1 < (l.set k zv).length := (by rw [List.length_set]; exact hk1); have hz12 : (l.set k zv)[k + 1] = zv := (by rw [List.getElem_set_ne (by omega)]; exact HZV.out); have g0 : x2.cell? ⟨g, (k + 1) * 5, none⟩ = some (.int .i64 zv.num) := own_cell (C := inoC) (fun _ => rfl) hl2 HO2.out hk12 hz12 0 (by decide); have g1 : x2.cell? ⟨g, (k + 1) * 5 + 1, none⟩ = some (.bool zv.dir) := own_cell (C := inoC) (fun _ => rfl) hl2 HO2.out hk12 hz12 1 (by decide); have g2 : x2.cell? ⟨g, (k + 1) * 5 + 2, none⟩ = some (.int .i64 zv.links) := own_cell (C := inoC) (fun _ => rfl) hl2 HO2.out hk12 hz12 2 (by decide); have g3 : x2.cell? ⟨g, (k + 1) * 5 + 3, none⟩ = some (.int .i64 zv.root) := own_cell (C := inoC) (fun _ => rfl) hl2 HO2.out hk12 hz12 3 (by decide); have g4 : x2.cell? ⟨g, (k + 1) * 5 + 4, none⟩ = some (.int .i64 zv.size) := own_cell (C := inoC) (fun _ => rfl) hl2 HO2.out hk12 hz12 4 (by decide); have h0' : x2.frozen? ⟨g, (k + 1) * 5, none⟩ = false := HO2.out.frozenAt _; have h1' : x2.frozen? ⟨g, (k + 1) * 5 + 1, none⟩ = false := HO2.out.frozenAt _; have h2' : x2.frozen? ⟨g, (k + 1) * 5 + 2, none⟩ = false := HO2.out.frozenAt _; have h3' : x2.frozen? ⟨g, (k + 1) * 5 + 3, none⟩ = false := HO2.out.frozenAt _; have h4' : x2.frozen? ⟨g, (k + 1) * 5 + 4, none⟩ = false := HO2.out.frozenAt _; have hq2 : x2.heap[w3.heap.size]? = some (.cells #[.int .i64 yy.num, .bool yy.dir, .int .i64 yy.links, .int .i64 yy.root, .int .i64 yy.size] 34 (0, 0)) := (by rw [← hx2]; exact (heap_set_other (heap_set_other (heap_set_other (heap_set_other (heap_set_other HX1.out hng (.int .i64 zv.num)) hng (.bool zv.dir)) hng (.int .i64 zv.links)) hng (.int .i64 zv.root)) hng (.int .i64 zv.size))); have m0 : x2.cell? ⟨w3.heap.size, 0, none⟩ = some (.int .i64 yy.num) := (by simp [World.cell?, hq2]); have m1 : x2.cell? ⟨w3.heap.size, 1, none⟩ = some (.bool yy.dir) := (by simp [World.cell?, hq2]); have m2 : x2.cell? ⟨w3.heap.size, 2, none⟩ = some (.int .i64 yy.links) := (by simp [World.cell?, hq2]); have m3 : x2.cell? ⟨w3.heap.size, 3, none⟩ = some (.int .i64 yy.root) := (by simp [World.cell?, hq2]); have m4 : x2.cell? ⟨w3.heap.size, 4, none⟩ = some (.int .i64 yy.size) := (by simp [World.cell?, hq2]); obtain ⟨x3, hx3⟩ : ∃ u, (((((x2.setCell ⟨g, (k + 1) * 5, none⟩ (.int .i64 yy.num)).setCell ⟨g, (k + 1) * 5 + 1, none⟩ (.bool yy.dir)).setCell ⟨g, (k + 1) * 5 + 2, none⟩ (.int .i64 yy.links)).setCell ⟨g, (k + 1) * 5 + 3, none⟩ (.int .i64 yy.root)).setCell ⟨g, (k + 1) * 5 + 4, none⟩ (.int .i64 yy.size)) = u := ⟨_, rfl⟩; have HO3 := Lib.hid (show x3.ownsRow s3.heap.size 34 5 (.slice (some ⟨g, 0, none⟩) n0 cp) n0 (((l.set k zv).set (k + 1) yy).flatMap inoC) by rw [← hx3]; exact own_put5 hl2 HO2.out hk12 yy); have hg0 : w0.heap.size ≤ g := Nat.le_trans hws (hO.lt g rfl).1; have HB5 := Lib.hid (show Below w0.heap.size w0 x3 by rw [← hx3, ← hx2]; exact (((((((((((HB3.out.trans (HU1.out.mono HB3.out.size)).setCell (p := ⟨g, k * 5, none⟩) hg0 (.int .i64 zv.num)).setCell (p := ⟨g, k * 5 + 1, none⟩) hg0 (.bool zv.dir)).setCell (p := ⟨g, k * 5 + 2, none⟩) hg0 (.int .i64 zv.links)).setCell (p := ⟨g, k * 5 + 3, none⟩) hg0 (.int .i64 zv.root)).setCell (p := ⟨g, k * 5 + 4, none⟩) hg0 (.int .i64 zv.size)).setCell (p := ⟨g, (k + 1) * 5, none⟩) hg0 (.int .i64 yy.num)).setCell (p := ⟨g, (k + 1) * 5 + 1, none⟩) hg0 (.bool yy.dir)).setCell (p := ⟨g, (k + 1) * 5 + 2, none⟩) hg0 (.int .i64 yy.links)).setCell (p := ⟨g, (k + 1) * 5 + 3, none⟩) hg0 (.int .i64 yy.root)).setCell (p := ⟨g, (k + 1) * 5 + 4, none⟩) hg0 (.int .i64 yy.size))); clear hq0 hq2; clear hown' hgrow hown hO d0 d1)
          have hl3 : ((l.set k zv).set (k + 1) yy).length = n0 := by rw [List.length_set, List.length_set]; exact HNN0.out
          have E1 := inos_any (.slice (some ⟨g, 0, none⟩) n0 cp) _ (by rw [hl3]; omega) x3 (lst_of_owns inoC_len (by decide) (by rw [hl3]; exact HO3.out))
          rw [layV_no HTN.out] at E1
          refine E1.mono ?_
          rintro e t1 ⟨rfl, B6⟩
          have HB6 := Lib.hid (HB5.out.trans (B6.mono HB5.out.size))
          clear B6 E1
          clear i1 i2 i3 i4 i5 i6 i7 i8
          obtain ⟨c0, c1⟩ := HK.out t1 HB6.out
          go_wp2_with fail
          clear c0 c1
          refine (fixed_any t1 (HG.out t1 HB6.out)).mono ?_
          rintro e wz ⟨rfl, BZ⟩
          go_wp2_with fail
          go_ret
          exact ⟨rfl, HB0.out.trans ((HB6.out.trans (BZ.mono HB6.out.size)).mono HB0.out.size)⟩
        · have hlen1 : ¬ (1 : Int) < (n0 : Int) := by omega
          clear hm3 hlen
          go_wp2_with fail
          clear c0 c1
          refine (fixed_any s3 (HG.out s3 D3.out)).mono ?_
          rintro e wz ⟨rfl, BZ⟩
          go_wp2_with fail
          go_ret
          exact ⟨rfl, HB0.out.trans ((D3.out.trans (BZ.mono D3.out.size)).mono HB0.out.size)⟩
      · rw [layV_no hm3] at C3
        refine C3.mono ?_
        rintro e s3 ⟨rfl, B3⟩
        have D3 := Lib.hid (D1.out.trans (B3.mono D1.out.size))
        clear B3 C3
        obtain ⟨c0, c1⟩ := HK.out s3 D3.out
        go_wp2_with fail
        clear c0 c1
        refine (fixed_any s3 (HG.out s3 D3.out)).mono ?_
        rintro e wz ⟨rfl, BZ⟩
        go_wp2_with fail
        go_ret
        exact ⟨rfl, HB0.out.trans ((D3.out.trans (BZ.mono D3.out.size)).mono HB0.out.size)⟩
  · rw [layV_no hm1] at C1
    refine C1.mono ?_
    rintro e s1 ⟨rfl, B1⟩
    have D1 := Lib.hid (HR.out.trans (B1.mono HR.out.size))
    clear B1 C1
    obtain ⟨c0, c1⟩ := HK.out s1 D1.out
    go_wp2_with fail
    clear c0 c1
    have C4 := inos_any _ l hl1 s1 (HL1.out.later (HB0.out.trans (D1.out.mono HB0.out.size)))
    by_cases hm4 : May kI l
    · rw [layV_yes hm4] at C4
      refine C4.mono ?_
      rintro e s4 ⟨rfl, B4⟩
      have D4 := Lib.hid (D1.out.trans (B4.mono D1.out.size))
      have HMM4 := Lib.hid hm4
      clear B4 C4
      obtain ⟨c0, c1⟩ := HK.out s4 D4.out
      by_cases hlen : 1 < n0
      · have h4 : n0 ≤ 4096 := by rw [← HNN0.out]; exact hm4.1
        clear hm4
        obtain ⟨M, hM⟩ : ∃ M, n0 - 1 = M := ⟨_, rfl⟩
        obtain ⟨k, hk⟩ : ∃ k, zz % M = k := ⟨_, rfl⟩
        have hM0 : 0 < M := by omega
        have hkM : k < M := by rw [← hk]; exact Nat.mod_lt _ hM0
        have hk1 : k + 1 < l.length := by rw [HNN0.out]; omega
        have hk0 : k < l.length := by omega
        obtain ⟨b, off, rfl, hb, hcells⟩ := HC0.out (by intro e; rw [e] at hk0; simp at hk0)
        have HNW := Lib.hid (show ∀ W', Below W.heap.size W W' → ∀ q u, (l.flatMap inoC)[q]? = some u → W'.cell? ((⟨b, off, none⟩ : Addr).add q) = some u from fun W' hB => lst_news (C := inoC) (k := 5) (fun _ => rfl) (by decide) (fun j hj i hi => (World.cell?_of_block (w := W) (hB.block b hb)).trans (hcells j hj i hi)))
        obtain ⟨yy, hyy⟩ : ∃ yy, l[k] = yy := ⟨_, rfl⟩
        obtain ⟨zv, hzv⟩ : ∃ zv, l[k + 1] = zv := ⟨_, rfl⟩
        have HTN := Lib.hid (show ¬ May kI ((l.set k zv).set (k + 1) yy) by rw [← hyy, ← hzv]; exact turned_no hk1 HMM4.out kI_asymm)
        have HYY := Lib.hid hyy
        have HZV := Lib.hid hzv
        have hone := inoC_ones l
        have hfl : (l.flatMap inoC).length = n0 * 5 := by rw [← HNN0.out]; exact flat_length (C := inoC) (k := 5) (fun _ => rfl) _
        have i1 : (1 : Int) < (n0 : Int) := by omega
        have i2 : (n0 : Int) - 1 = (M : Int) := by omega
        have i3 : (zz : Int) % (M : Int) = (k : Int) := by rw [← hk]; exact (Int.natCast_emod _ _).symm
        have i4 : (zz : Int).tmod (M : Int) = (k : Int) := by rw [← hk]; rfl
        have i5 : ¬ (M : Int) = 0 := by omega
        have i6 : ((M : Int) == 0) = false := by simpa using i5
        have i7 : (k : Int) < (n0 : Int) := by omega
        have i8 : (k : Int) + 1 < (n0 : Int) := by omega
        clear hyy hzv hb hcells hM hk hM0 hkM hlen
        obtain ⟨i0, hi, hz0, hz1, hz2⟩ := info_parts infoIno
        obtain ⟨ua, hua⟩ : ∃ u, s4.alloc (.cells #[] 34) = u := ⟨_, rfl⟩
        have hown : ua.ownsRow s4.heap.size 34 5 (.slice (some ⟨s4.heap.size, 0, none⟩) 0 0) 0 [] := by rw [← hua]; exact World.ownsRow_lit s4 #[] 0 (Nat.le_refl _) (by decide) rfl
        have HUA := Lib.hid (show Below w0.heap.size w0 ua by rw [← hua]; exact D4.out.alloc D4.out.size _)
        obtain ⟨d0, d1⟩ := HK.out ua HUA.out
        have hsu : s4.heap.size ≤ ua.heap.size := by rw [← hua]; simp
        have hws := D4.out.size
        go_wp2_with (at_builtin; refine wpList_append_own _ rfl _ _ 24 rfl s4.heap.size 34 i0 (.agg #[.int .i64 0, .bool false, .int .i64 0, .int .i64 0, .int .i64 0]) 5 40 Tryd.underlying24 hi hz0 hz1 hz2 rfl (by decide) _ _ _ rfl hown ⟨b, off, none⟩ n0 cx (l.flatMap inoC) rfl hfl (HNW.out ua (HB0.out.trans (HUA.out.mono HB0.out.size))) hone (by unfold maxLen; omega) (by omega) hsu ?_; intro v' w3 hown' hgrow _; have hO : w3.ownsRow s4.heap.size 34 5 v' n0 (l.flatMap inoC) := (by simpa using hown'); obtain ⟨g, cp, rfl⟩ := Joins.ownsRow_form hO (by omega); have HO := Lib.hid hO; have HB3 := Lib.hid (show Below w0.heap.size w0 w3 from HUA.out.grown hgrow HUA.out.size (fun j ej => Nat.le_trans hws (hown.lt j ej).1)); have hgl := (hO.lt g rfl).2; have c0 : w3.cell? ⟨g, k * 5, none⟩ = some (.int .i64 yy.num) := own_cell (C := inoC) (fun _ => rfl) HNN0.out hO hk0 HYY.out 0 (by decide); have c1 : w3.cell? ⟨g, k * 5 + 1, none⟩ = some (.bool yy.dir) := own_cell (C := inoC) (fun _ => rfl) HNN0.out hO hk0 HYY.out 1 (by decide); have c2 : w3.cell? ⟨g, k * 5 + 2, none⟩ = some (.int .i64 yy.links) := own_cell (C := inoC) (fun _ => rfl) HNN0.out hO hk0 HYY.out 2 (by decide); have c3 : w3.cell? ⟨g, k * 5 + 3, none⟩ = some (.int .i64 yy.root) := own_cell (C := inoC) (fun _ => rfl) HNN0.out hO hk0 HYY.out 3 (by decide); have c4 : w3.cell? ⟨g, k * 5 + 4, none⟩ = some (.int .i64 yy.size) := own_cell (C := inoC) (fun _ => rfl) HNN0.out hO hk0 HYY.out 4 (by decide); obtain ⟨x0, hx0⟩ : ∃ u, w3.alloc (.cells #[.int .i64 0, .bool false, .int .i64 0, .int .i64 0, .int .i64 0] 34) = u := ⟨_, rfl⟩; have hq0 : x0.heap[w3.heap.size]? = some (.cells #[.int .i64 0, .bool false, .int .i64 0, .int .i64 0, .int .i64 0] 34 (0, 0)) := (by rw [← hx0]; exact heap_alloc_new w3 _); have z0 : x0.cell? ⟨w3.heap.size, 0, none⟩ = some (.int .i64 0) := (by simp [World.cell?, hq0]); have f0 : x0.frozen? ⟨w3.heap.size, 0, none⟩ = false := (by simp [World.frozen?, hq0]); have z1 : x0.cell? ⟨w3.heap.size, 1, none⟩ = some (.bool false) := (by simp [World.cell?, hq0]); have f1 : x0.frozen? ⟨w3.heap.size, 1, none⟩ = false := (by simp [World.frozen?, hq0]); have z2 : x0.cell? ⟨w3.heap.size, 2, none⟩ = some (.int .i64 0) := (by simp [World.cell?, hq0]); have f2 : x0.frozen? ⟨w3.heap.size, 2, none⟩ = false := (by simp [World.frozen?, hq0]); have z3 : x0.cell? ⟨w3.heap.size, 3, none⟩ = some (.int .i64 0) := (by simp [World.cell?, hq0]); have f3 : x0.frozen? ⟨w3.heap.size, 3, none⟩ = false := (by simp [World.frozen?, hq0]); have z4 : x0.cell? ⟨w3.heap.size, 4, none⟩ = some (.int .i64 0) := (by simp [World.cell?, hq0]); have f4 : x0.frozen? ⟨w3.heap.size, 4, none⟩ = false := (by simp [World.frozen?, hq0]); obtain ⟨x1, hx1⟩ : ∃ u, (((((x0.setCell ⟨w3.heap.size, 0, none⟩ (.int .i64 yy.num)).setCell ⟨w3.heap.size, 1, none⟩ (.bool yy.dir)).setCell ⟨w3.heap.size, 2, none⟩ (.int .i64 yy.links)).setCell ⟨w3.heap.size, 3, none⟩ (.int .i64 yy.root)).setCell ⟨w3.heap.size, 4, none⟩ (.int .i64 yy.size)) = u := ⟨_, rfl⟩; have HX1 := Lib.hid (show x1.heap[w3.heap.size]? = some (.cells #[.int .i64 yy.num, .bool yy.dir, .int .i64 yy.links, .int .i64 yy.root, .int .i64 yy.size] 34 (0, 0)) by rw [← hx1]; exact (heap_set (heap_set (heap_set (heap_set (heap_set hq0 (i := 0) (.int .i64 yy.num)) (i := 1) (.bool yy.dir)) (i := 2) (.int .i64 yy.links)) (i := 3) (.int .i64 yy.root)) (i := 4) (.int .i64 yy.size))); have HU1 := Lib.hid (show Below w3.heap.size w3 x1 by rw [← hx1, ← hx0]; exact (((((((Below.refl _ w3).alloc (Nat.le_refl _) _).setCell (p := ⟨w3.heap.size, 0, none⟩) (Nat.le_refl _) (.int .i64 yy.num)).setCell (p := ⟨w3.heap.size, 1, none⟩) (Nat.le_refl _) (.bool yy.dir)).setCell (p := ⟨w3.heap.size, 2, none⟩) (Nat.le_refl _) (.int .i64 yy.links)).setCell (p := ⟨w3.heap.size, 3, none⟩) (Nat.le_refl _) (.int .i64 yy.root)).setCell (p := ⟨w3.heap.size, 4, none⟩) (Nat.le_refl _) (.int .i64 yy.size))); have HO1 := Lib.hid (owns_later hO HU1.out); have a0 : x1.cell? ⟨g, k * 5, none⟩ = some (.int .i64 yy.num) := own_cell (C := inoC) (fun _ => rfl) HNN0.out HO1.out hk0 HYY.out 0 (by decide); have a1 : x1.cell? ⟨g, k * 5 + 1, none⟩ = some (.bool yy.dir) := own_cell (C := inoC) (fun _ => rfl) HNN0.out HO1.out hk0 HYY.out 1 (by decide); have a2 : x1.cell? ⟨g, k * 5 + 2, none⟩ = some (.int .i64 yy.links) := own_cell (C := inoC) (fun _ => rfl) HNN0.out HO1.out hk0 HYY.out 2 (by decide); have a3 : x1.cell? ⟨g, k * 5 + 3, none⟩ = some (.int .i64 yy.root) := own_cell (C := inoC) (fun _ => rfl) HNN0.out HO1.out hk0 HYY.out 3 (by decide); have a4 : x1.cell? ⟨g, k * 5 + 4, none⟩ = some (.int .i64 yy.size) := own_cell (C := inoC) (fun _ => rfl) HNN0.out HO1.out hk0 HYY.out 4 (by decide); have b0 : x1.cell? ⟨g, (k + 1) * 5, none⟩ = some (.int .i64 zv.num) := own_cell (C := inoC) (fun _ => rfl) HNN0.out HO1.out hk1 HZV.out 0 (by decide); have b1 : x1.cell? ⟨g, (k + 1) * 5 + 1, none⟩ = some (.bool zv.dir) := own_cell (C := inoC) (fun _ => rfl) HNN0.out HO1.out hk1 HZV.out 1 (by decide); have b2 : x1.cell? ⟨g, (k + 1) * 5 + 2, none⟩ = some (.int .i64 zv.links) := own_cell (C := inoC) (fun _ => rfl) HNN0.out HO1.out hk1 HZV.out 2 (by decide); have b3 : x1.cell? ⟨g, (k + 1) * 5 + 3, none⟩ = some (.int .i64 zv.root) := own_cell (C := inoC) (fun _ => rfl) HNN0.out HO1.out hk1 HZV.out 3 (by decide); have b4 : x1.cell? ⟨g, (k + 1) * 5 + 4, none⟩ = some (.int .i64 zv.size) := own_cell (C := inoC) (fun _ => rfl) HNN0.out HO1.out hk1 HZV.out 4 (by decide); have e0 : x1.frozen? ⟨g, k * 5, none⟩ = false := HO1.out.frozenAt _; have e1 : x1.frozen? ⟨g, k * 5 + 1, none⟩ = false := HO1.out.frozenAt _; have e2 : x1.frozen? ⟨g, k * 5 + 2, none⟩ = false := HO1.out.frozenAt _; have e3 : x1.frozen? ⟨g, k * 5 + 3, none⟩ = false := HO1.out.frozenAt _; have e4 : x1.frozen? ⟨g, k * 5 + 4, none⟩ = false := HO1.out.frozenAt _; have hng : w3.heap.size ≠ g := (by omega); obtain ⟨x2, hx2⟩ : ∃ u, (((((x1.setCell ⟨g, k * 5, none⟩ (.int .i64 zv.num)).setCell ⟨g, k * 5 + 1, none⟩ (.bool zv.dir)).setCell ⟨g, k * 5 + 2, none⟩ (.int .i64 zv.links)).setCell ⟨g, k * 5 + 3, none⟩ (.int .i64 zv.root)).setCell ⟨g, k * 5 + 4, none⟩ (.int .i64 zv.size)) = u := ⟨_, rfl⟩; have HO2 := Lib.hid (show x2.ownsRow s4.heap.size 34 5 (.slice (some ⟨g, 0, none⟩) n0 cp) n0 ((l.set k zv).flatMap inoC) by rw [← hx2]; exact own_put5 HNN0.out HO1.out hk0 zv); have hl2 : (l.set k zv).length = n0 := (by rw [List.length_set]; exact HNN0.out); have hk12 : k + 1 < (l.set k zv).length := (by rw [List.length_set]; exact hk1); have hz12 : (l.set k zv)[k + 1] = zv := (by rw [List.getElem_set_ne (by omega)]; exact HZV.out); have g0 : x2.cell? ⟨g, (k + 1) * 5, none⟩ = some (.int .i64 zv.num) := own_cell (C := inoC) (fun _ => rfl) hl2 HO2.out hk12 hz12 0 (by decide); have g1 : x2.cell? ⟨g, (k + 1) * 5 + 1, none⟩ = some (.bool zv.dir) := own_cell (C := inoC) (fun _ => rfl) hl2 HO2.out hk12 hz12 1 (by decide); have g2 : x2.cell? ⟨g, (k + 1) * 5 + 2, none⟩ = some (.int .i64 zv.links) := own_cell (C := inoC) (fun _ => rfl) hl2 HO2.out hk12 hz12 2 (by decide); have g3 : x2.cell? ⟨g, (k + 1) * 5 + 3, none⟩ = some (.int .i64 zv.root) := own_cell (C := inoC) (fun _ => rfl) hl2 HO2.out hk12 hz12 3 (by decide); have g4 : x2.cell? ⟨g, (k + 1) * 5 + 4, none⟩ = some (.int .i64 zv.size) := own_cell (C := inoC) (fun _ => rfl) hl2 HO2.out hk12 hz12 4 (by decide); have h0' : x2.frozen? ⟨g, (k + 1) * 5, none⟩ = false := HO2.out.frozenAt _; have h1' : x2.frozen? ⟨g, (k + 1) * 5 + 1, none⟩ = false := HO2.out.frozenAt _; have h2' : x2.frozen? ⟨g, (k + 1) * 5 + 2, none⟩ = false := HO2.out.frozenAt _; have h3' : x2.frozen? ⟨g, (k + 1) * 5 + 3, none⟩ = false := HO2.out.frozenAt _; have h4' : x2.frozen? ⟨g, (k + 1) * 5 + 4, none⟩ = false := HO2.out.frozenAt _; have hq2 : x2.heap[w3.heap.size]? = some (.cells #[.int .i64 yy.num, .bool yy.dir, .int .i64 yy.links, .int .i64 yy.root, .int .i64 yy.size] 34 (0, 0)) := (by rw [← hx2]; exact (heap_set_other (heap_set_other (heap_set_other (heap_set_other (heap_set_other HX1.out hng (.int .i64 zv.num)) hng (.bool zv.dir)) hng (.int .i64 zv.links)) hng (.int .i64 zv.root)) hng (.int .i64 zv.size))); have m0 : x2.cell? ⟨w3.heap.size, 0, none⟩ = some (.int .i64 yy.num) := (by simp [World.cell?, hq2]); have m1 : x2.cell? ⟨w3.heap.size, 1, none⟩ = some (.bool yy.dir) := (by simp [World.cell?, hq2]); have m2 : x2.cell? ⟨w3.heap.size, 2, none⟩ = some (.int .i64 yy.links) := (by simp [World.cell?, hq2]); have m3 : x2.cell? ⟨w3.heap.size, 3, none⟩ = some (.int .i64 yy.root) := (by simp [World.cell?, hq2]); have m4 : x2.cell? ⟨w3.heap.size, 4, none⟩ = some (.int .i64 yy.size) := (by simp [World.cell?, hq2]); obtain ⟨x3, hx3⟩ : ∃ u, (((((x2.setCell ⟨g, (k + 1) * 5, none⟩ (.int .i64 yy.num)).setCell ⟨g, (k + 1) * 5 + 1, none⟩ (.bool yy.dir)).setCell ⟨g, (k + 1) * 5 + 2, none⟩ (.int .i64 yy.links)).setCell ⟨g, (k + 1) * 5 + 3, none⟩ (.int .i64 yy.root)).setCell ⟨g, (k + 1) * 5 + 4, none⟩ (.int .i64 yy.size)) = u := ⟨_, rfl⟩; have HO3 := Lib.hid (show x3.ownsRow s4.heap.size 34 5 (.slice (some ⟨g, 0, none⟩) n0 cp) n0 (((l.set k zv).set (k + 1) yy).flatMap inoC) by rw [← hx3]; exact own_put5 hl2 HO2.out hk12 yy); have hg0 : w0.heap.size ≤ g := Nat.le_trans hws (hO.lt g rfl).1; have HB5 := Lib.hid (show Below w0.heap.size w0 x3 by rw [← hx3, ← hx2]; exact (((((((((((HB3.out.trans (HU1.out.mono HB3.out.size)).setCell (p := ⟨g, k * 5, none⟩) hg0 (.int .i64 zv.num)).setCell (p := ⟨g, k * 5 + 1, none⟩) hg0 (.bool zv.dir)).setCell (p := ⟨g, k * 5 + 2, none⟩) hg0 (.int .i64 zv.links)).setCell (p := ⟨g, k * 5 + 3, none⟩) hg0 (.int .i64 zv.root)).setCell (p := ⟨g, k * 5 + 4, none⟩) hg0 (.int .i64 zv.size)).setCell (p := ⟨g, (k + 1) * 5, none⟩) hg0 (.int .i64 yy.num)).setCell (p := ⟨g, (k + 1) * 5 + 1, none⟩) hg0 (.bool yy.dir)).setCell (p := ⟨g, (k + 1) * 5 + 2, none⟩) hg0 (.int .i64 yy.links)).setCell (p := ⟨g, (k + 1) * 5 + 3, none⟩) hg0 (.int .i64 yy.root)).setCell (p := ⟨g, (k + 1) * 5 + 4, none⟩) hg0 (.int .i64 yy.size))); clear hq0 hq2; clear hown' hgrow hown hO d0 d1)
        have hl3 : ((l.set k zv).set (k + 1) yy).length = n0 := by rw [List.length_set, List.length_set]; exact HNN0.out
        have E1 := inos_any (.slice (some ⟨g, 0, none⟩) n0 cp) _ (by rw [hl3]; omega) x3 (lst_of_owns inoC_len (by decide) (by rw [hl3]; exact HO3.out))
        rw [layV_no HTN.out] at E1
        refine E1.mono ?_
        rintro e t1 ⟨rfl, B6⟩
        have HB6 := Lib.hid (HB5.out.trans (B6.mono HB5.out.size))
        clear B6 E1
        clear i1 i2 i3 i4 i5 i6 i7 i8
        obtain ⟨c0, c1⟩ := HK.out t1 HB6.out
        go_wp2_with fail
        clear c0 c1
        refine (fixed_any t1 (HG.out t1 HB6.out)).mono ?_
        rintro e wz ⟨rfl, BZ⟩
        go_wp2_with fail
        go_ret
        exact ⟨rfl, HB0.out.trans ((HB6.out.trans (BZ.mono HB6.out.size)).mono HB0.out.size)⟩
      · have hlen1 : ¬ (1 : Int) < (n0 : Int) := by omega
        clear hm4 hlen
        go_wp2_with fail
        clear c0 c1
        refine (fixed_any s4 (HG.out s4 D4.out)).mono ?_
        rintro e wz ⟨rfl, BZ⟩
        go_wp2_with fail
        go_ret
        exact ⟨rfl, HB0.out.trans ((D4.out.trans (BZ.mono D4.out.size)).mono HB0.out.size)⟩
    · rw [layV_no hm4] at C4
      refine C4.mono ?_
      rintro e s4 ⟨rfl, B4⟩
      have D4 := Lib.hid (D1.out.trans (B4.mono D1.out.size))
      clear B4 C4
      obtain ⟨c0, c1⟩ := HK.out s4 D4.out
      go_wp2_with fail
      clear c0 c1
      refine (fixed_any s4 (HG.out s4 D4.out)).mono ?_
      rintro e wz ⟨rfl, BZ⟩
      go_wp2_with fail
      go_ret
      exact ⟨rfl, HB0.out.trans ((D4.out.trans (BZ.mono D4.out.size)).mono HB0.out.size)⟩

set_option maxRecDepth 100000 in
/-- WHAT THE WALK GIVES, for every argument that can be read. -/
theorem contract (H : Type) (enc : TypeId × Value → H) (W : World) (base : Nat) (args : Array Value) (ds gs : List (DataW H)) (before : List MemPlace)
    (hval : ∀ (j : Nat) t v, Tryd.f8.params[j]? = some t → args[j]? = some v → Value.okWide Tryd.prog W .any base t v)
    (hW : DataW.Whole enc Tryd.prog Tryd.f8.params.toList Rows.tableTurnedSpec.vars false W args.toList ds gs before)
    (hreach : (DataW.weightsEach Tryd.prog (Tryd.f8.params.toList) ds).all (· ≤ reachBytes) = true) (hg : GE W) :
    Calls Tryd.prog 8 args W fun e W' => ∃ v, e = .returned v ∧ Rows.tableTurnedSpec.post enc Tryd.prog Tryd.f8 false true false false W args v W' := by
  have hW' := hW
  obtain ⟨p, q, hA0, hV, rfl, hfz, hnd⟩ := hW
  have hA : DataW.TrodAll enc Tryd.prog W 0 (fun _ => true) true Tryd.f8.params.toList args.toList ds p := hA0
  rw [Tryd.params8] at hA hval hreach
  obtain ⟨v0, v1, d0, d1, p0, p1, rfl, rfl, rfl, h0, h1⟩ := trodAll_two hA
  obtain ⟨rfl, rfl⟩ := trodVars_none hV
  obtain ⟨n1, rfl, rfl, rfl, wn1⟩ := open_int Tryd.underlying3 (hval 1 3 v1 rfl rfl) h1
  have r1 := int_range wn1
  have lt0 : ∀ x ∈ p0, x.block < W.heap.size := fun x hx => hW'.lt x (by simp [hx])
  obtain ⟨x0, y0, z0, l0, m0, n0, rfl, k0, r0, q0, t0⟩ := lists_open (hval 0 44 v0 rfl rfl) h0 lt0 (weights_of hreach (j := 0) rfl rfl)
  clear hA0 hval
  simp only [List.append_nil] at hW'
  refine (walk x0 y0 z0 l0 m0 n0 n1 W k0 r0 q0 t0 r1 hg).mono fun e W' ⟨he, hB⟩ => ?_
  subst he
  exact ⟨_, rfl, post_of_below (pa := p0 ++ ([])) (pv := []) hW' (fun _ _ _ => trodAll_mk1 (shut_bool Tryd.underlying4 _)) (fun sp hsp => trodAll_mk2 (WideElems.Trod_stays laidOut (by kernel_rfl) (of_decide_eq_true (by kernel_rfl)) h0 (fun x hx => hB.same (lt0 x hx)) (fun x hx => hsp x (by simp [hx]))) (shut_int Tryd.underlying3 wn1)) (fun _ _ => rfl) (by simp) hB (ok_one (by kernel_rfl) rfl (okWide_bool_mk Tryd.underlying4 _))⟩

theorem reads (os : Os) {H : Type} (enc : TypeId × Value → H) : ∃ places, DataW.whole enc Tryd.prog ((laidWorldH os).forCall (fun _ _ => 0) ⟨#[], #[.agg #[.slice none 0 0, .slice none 0 0, .slice none 0 0], .int .i64 0], []⟩).memory Tryd.f8.params.toList Rows.tableTurnedSpec.vars false (#[.agg #[.slice none 0 0, .slice none 0 0, .slice none 0 0], .int .i64 0] : Array Value).toList 8 = some ([.agg [.nil, .nil, .nil], .lit (.int .i64 0)], [], places) :=
  ⟨[], by kernel_rfl⟩

set_option maxRecDepth 100000 in
theorem lifted (os : Os) (started : os.Started) (H : Type) (enc : TypeId × Value → H) (F : Stop.Interp) :
    ReturnsInHanded {} Tryd.checked os 8 .any ((OpenSpec.ofChange Rows.tableTurnedSpec).preRow enc Tryd.prog Tryd.f8 Rows.tableTurnedRow.domain false Rows.tableTurnedRow.laid) (((OpenSpec.ofChange Rows.tableTurnedSpec).at F).post enc Tryd.prog Tryd.f8 false true false false) := by
  obtain ⟨places, hx⟩ := reads os enc
  refine returnsInHanded_of_row (C := Tryd.checked) (s := OpenSpec.ofChange Rows.tableTurnedSpec) own started (by kernel_rfl) Tryd.func8
    (witness_row_at (enc := enc) (C := Tryd.checked) false (laidWorldH os) #[.agg #[.slice none 0 0, .slice none 0 0, .slice none 0 0], .int .i64 0] rfl (by kernel_rfl) (by kernel_rfl) (by kernel_rfl)
      (OpenSpec.preRow_of_cond 8 hx (by kernel_rfl) (fun k hk => by cases hk) (by kernel_rfl) (laid_metH os _))) ?_
  intro W base args ds gs before hval hW _ hcond hreach hL _ _
  obtain ⟨p, q, hA0, hV, hpq, hfz, hnd⟩ := id hW
  obtain ⟨rfl, _⟩ := trodVars_none hV
  rw [List.append_nil] at hreach
  exact contract H enc W base args ds [] before hval hW hreach (handle_of_laid hL)

theorem said : Rows.TableTurnedSaid :=
  OpenClaim.holds_of_cond 8 Tryd.f8 rfl rfl rfl rfl rfl rfl rfl ⟨rfl, rfl, rfl, rfl, rfl⟩ rfl rfl rfl rfl rfl (by kernel_rfl) Tryd.func8 (by kernel_rfl)
    (of_decide_eq_true (by kernel_rfl)) (by unfold Func.isWrapper; first | (rw [if_pos (by decide +kernel)]; kernel_rfl) | (rw [if_neg (by decide +kernel)]; exact ⟨rfl, rfl⟩))
    (fun os started H enc _ F => by rw [OpenClaim.pre_eq_preRow]; exact lifted os started H enc F)

theorem plain (f : FuncId) (fn : Func) (hf : Tryd.pinned.checked.prog.funcNamed "stillage/stillagelaw12.TableTurned" = some f) (hfn : Tryd.pinned.checked.prog.funcs[f]? = some fn) :
    true = Tryd.pinned.checked.prog.looks [] ∧ ∀ (j : Nat) t, fn.params[j]? = some t → Tryd.pinned.checked.prog.wantsStandIn t = false := by
  obtain rfl : f = 8 := Option.some.inj ((show Tryd.prog.funcNamed "stillage/stillagelaw12.TableTurned" = some 8 by kernel_rfl).symm.trans hf) |>.symm
  obtain rfl : fn = Tryd.f8 := (Option.some.inj (Tryd.func8.symm.trans hfn)).symm
  refine ⟨by kernel_rfl, fun j t ht => ?_⟩
  rw [Tryd.params8] at ht
  have hm : t ∈ [44, 3] := by simpa using Array.mem_of_getElem? ht
  have hall : ([44, 3].all fun u => !Tryd.prog.wantsStandIn u) = true := by kernel_rfl
  exact (show Tryd.prog.wantsStandIn t = false by simpa using List.all_eq_true.1 hall t hm)

/-- THE CARD -/
theorem card : Rows.TableTurnedCardSaid :=
  Claim7.holds_tied_plain_at .later [] _ _ _ _ said (fun _ h => by cases h) (by kernel_rfl) (fun _ h => by cases h) tableTurned_row_tie rfl ⟨rfl, rfl⟩ (by kernel_rfl) rfl plain (by kernel_rfl)


end Go.Proofs.YtffebghkmobeoaaDoor.bturned

