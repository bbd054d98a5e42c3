/-
  TreeLoads.
-/
import Derived.Test.YtmloljjllmmkoaaGreatTreRx
import Derived.Test.YtmloljjllmmkoaaGreatTN
import Derived.Test.YtmloljjllmmkoaaGreatAX
import Derived.Test.YtmloljjllmmkoaaGreatKitS
import Derived.Test.YtmloljjllmmkoaaGreatTreP
import Derived.Deep.RegionHeld3
import Derived.Test.YtmloljjllmmkoaaGreatKitH
import Derived.Deep.CutRange
namespace Go.Proofs.YtmloljjllmmkoaaGreat.tloads
open Go.ChangeShapes Go.WideShapes Go.ChangeAt Go.RowKit Go.Shelf Go Go.Maps SM PL AL TR

theorem ints_of_vals {w : World} {B : Nat} {v : Value} {L : List Int} (h : w.ownsRow B 3 1 v L.length (intVals L)) : IntsAt w v L := by
  have hh := h
  rcases h.2 with ⟨rfl, h0⟩ | ⟨g, cap, cur, rfl, _, hg, _⟩
  · have : L = [] := List.length_eq_zero_iff.1 h0
    subst this
    exact .inl ⟨rfl, rfl⟩
  · refine .inr ⟨g, 0, cap, rfl, lt_of_heap hg, fun j hj => ?_⟩
    rw [Nat.zero_add, hh.cellAt j (by omega)]
    simp [intVals, hj]
theorem loadedT_shape (R : RT) : ∃ S E, loadedT R = .tuple #[.string S, .int .i64 E] := by
  unfold loadedT
  split
  · exact ⟨_, _, rfl⟩
  · exact ⟨_, _, rfl⟩
set_option maxRecDepth 100000 in
set_option maxHeartbeats 8000000 in
theorem walk (va : Value) (rs : List ByteArray) (root size : Int) (w : World) (hOa : StrsAt w va rs) (hza : rs.length ≤ 140737488351232 ∧ ∀ s ∈ rs, s.size ≤ 140737488351232) (hr64 : I64 root) (hz64 : I64 size) :
    Calls Tryz.prog 3 #[va, .agg #[.int .i64 root, .int .i64 size]] w fun r w' => r = .returned (.bool true) ∧ Below w.heap.size w w' := by
  obtain ⟨aa, capa, rfl, ha⟩ := hOa
  obtain ⟨w1, hw1⟩ : ∃ w1, w.alloc (.cells #[.int .i64 root, .int .i64 size] 24) = w1 := ⟨_, rfl⟩
  have hB1 : Below w.heap.size w w1 := by rw [← hw1]; exact (Below.refl _ w).alloc (Nat.le_refl _) _
  have hbl : w1.heap[w.heap.size]? = some (.cells #[.int .i64 root, .int .i64 size] 24 (0, 0)) := by rw [← hw1]; exact heap_alloc_new _ _
  have HW1 := Lib.hid hw1
  have HB1 := Lib.hid hB1
  have HBl := Lib.hid hbl
  have HA := Lib.hid ha
  have HZ := Lib.hid hza
  have hza1 := hza.1
  have CL := laid_tree 40 (by omega) (by omega) w1
  have CF := fun w => fixed11_any w
  clear ha hza hw1 hB1 hbl
  go_enter Tryz.func3, Tryz.ntmps3
  go_upto_region 1 with fail
  rw [HW1.out]
  go_wp2_with fail
  refine CL.mono ?_
  rintro e w2 ⟨l, b, g, m, c, r, q, d, rfl, hl⟩
  have H2 := Lib.hid hl.bb
  generalize vformX (fresh (blank (4 * 40))) none0 = x0 at H2
  clear hl CL
  go_wp2
  go_loopw [7] (fun i wr => ∃ (j : Nat) (x : VS), j ≤ rs.length ∧ j ≤ 39 ∧ i = .int .i64 j ∧ Hid (BB w1 l b g m c q r 0 (1 + 2 * j) none x x wr)) (fun i _ => rs.length - (intOf i).toNat)
  case atStart => exact ⟨0, x0, Nat.zero_le _, by omega, rfl, H2⟩
  case round =>
    obtain ⟨j, x, hj, hj1, rfl, HBB⟩ := hrel
    clear H2
    by_cases hlt : j < rs.length ∧ j < 39
    · obtain ⟨hlt1, hlt2⟩ := hlt
      obtain ⟨bb, off, rfl, hb, hc⟩ := HA.out (by rintro rfl; simp at hlt1)
      have hji : (j : Int) < (rs.length : Int) := by omega
      have hj2 : (j : Int) < 39 := by omega
      have hb1 : bb < w1.heap.size := Nat.lt_of_lt_of_le hb HB1.out.size
      have hc1 : w1.cell? ⟨bb, off + j, none⟩ = some (.string rs[j]) := (HB1.out.cell (p := ⟨bb, off + j, none⟩) hb).trans (hc j hlt1)
      have HC := Lib.hid (show ∀ W, Below w1.heap.size w1 W → W.cell? ⟨bb, off + j, none⟩ = some (.string rs[j]) from fun W h => (h.cell (p := ⟨bb, off + j, none⟩) hb1).trans hc1)
      have hcw := HC.out wr HBB.out.vw.below
      have hRs := HZ.out.2 rs[j] (List.getElem_mem hlt1)
      have HFx := Lib.hid HBB.out.vw.fine
      have CW := fun W (h : BB w1 l b g m c q r 0 (1 + 2 * j) none x x W) => h.write (by omega) ((j : Int) + 1) ⟨by omega, by omega⟩ rs[j] (by omega)
      have CRw := fun x' W (h : BB w1 l b g m c q r 0 (1 + 2 * j + 1) none x' x W) => h.rwrite HFx.out (by omega) ((j : Int) + 1) rs[j] (by omega)
      generalize rs[j] = P at *
      generalize x.write ((j : Int) + 1) P = Q at *
      obtain ⟨E, x'⟩ := Q
      simp only at CW CRw
      have HBd := Lib.hid (show BB w1 l b g m c q r 0 (1 + 2 * j) none x x wr.drew from HBB.out.later ((Below.refl _ wr).drew))
      have hcd := HC.out wr.drew HBd.out.vw.below
      clear hc hc1 hlt1
      have hwj : IntKind.i64.wrap ((j : Int) + 1) = (j : Int) + 1 := wrapI _ (by omega) (by omega)
      go_upto_region 7 with fail
      refine wp_region_held_drew (S := fun w' => w'.cell? ⟨bb, off + j, none⟩ = some (.string P)) (by kernel_rfl) hcd (fun hHeld => ?_)
      refine take_oneH 36 (i := 0) (v := .pointer (some ⟨l, 0, none⟩)) rfl rfl (by kernel_rfl) (by kernel_rfl) (by kernel_rfl) (fun _ _ _ h => h) (Or.inl ⟨by kernel_rfl, fun w hSw => by (go_simp)⟩) (by assumption) ?_
      simp only [Act.put, List.setIfInBounds_toArray, List.set_cons_zero, List.set_cons_succ]
      refine take_oneH 37 (i := 1) (v := .int .i64 j) rfl rfl (by kernel_rfl) (by kernel_rfl) (by kernel_rfl) (fun _ _ _ h => h) (Or.inl ⟨by kernel_rfl, fun w hSw => by (go_simp)⟩) (by assumption) ?_
      simp only [Act.put, List.setIfInBounds_toArray, List.set_cons_zero, List.set_cons_succ]
      refine take_oneH 38 (i := 2) (v := .int .i64 ((j : Int) + 1)) rfl rfl (by kernel_rfl) (by kernel_rfl) (by kernel_rfl) (fun _ _ _ h => h) (Or.inl ⟨by kernel_rfl, fun w hSw => by (go_simp)⟩) (by assumption) ?_
      simp only [Act.put, List.setIfInBounds_toArray, List.set_cons_zero, List.set_cons_succ]
      refine take_oneH 39 (i := 3) (v := .slice (some ⟨bb, off, none⟩) rs.length capa) rfl rfl (by kernel_rfl) (by kernel_rfl) (by kernel_rfl) (fun _ _ _ h => h) (Or.inl ⟨by kernel_rfl, fun w hSw => by (go_simp)⟩) (by assumption) ?_
      simp only [Act.put, List.setIfInBounds_toArray, List.set_cons_zero, List.set_cons_succ]
      refine take_oneH 40 (i := 4) (v := .int .i64 j) rfl rfl (by kernel_rfl) (by kernel_rfl) (by kernel_rfl) (fun _ _ _ h => h) (Or.inl ⟨by kernel_rfl, fun w hSw => by (go_simp)⟩) (by assumption) ?_
      simp only [Act.put, List.setIfInBounds_toArray, List.set_cons_zero, List.set_cons_succ]
      refine take_oneH 41 (i := 5) (v := .pointer (some ⟨bb, off + j, none⟩)) rfl rfl (by kernel_rfl) (by kernel_rfl) (by kernel_rfl) (fun _ _ _ h => h) (Or.inl ⟨by kernel_rfl, fun w hSw => by (go_simp)⟩) (by assumption) ?_
      simp only [Act.put, List.setIfInBounds_toArray, List.set_cons_zero, List.set_cons_succ]
      refine take_oneH 42 (i := 6) (v := .string P) rfl rfl (by kernel_rfl) (by kernel_rfl) (by kernel_rfl) (fun _ _ _ h => h) (Or.inl ⟨by kernel_rfl, fun w hSw => by (go_simp)⟩) (by assumption) ?_
      simp only [Act.put, List.setIfInBounds_toArray, List.set_cons_zero, List.set_cons_succ]
      refine take_oneH 44 (i := 8) (v := .pointer (some ⟨q, 0, none⟩)) rfl rfl (by kernel_rfl) (by kernel_rfl) (by kernel_rfl) (fun _ _ _ h => h) (Or.inl ⟨by kernel_rfl, fun w hSw => by (go_simp)⟩) (by assumption) ?_
      simp only [Act.put, List.setIfInBounds_toArray, List.set_cons_zero, List.set_cons_succ]
      refine take_oneH 45 (i := 9) (v := .int .i64 j) rfl rfl (by kernel_rfl) (by kernel_rfl) (by kernel_rfl) (fun _ _ _ h => h) (Or.inl ⟨by kernel_rfl, fun w hSw => by (go_simp)⟩) (by assumption) ?_
      simp only [Act.put, List.setIfInBounds_toArray, List.set_cons_zero, List.set_cons_succ]
      refine take_oneH 46 (i := 10) (v := .int .i64 ((j : Int) + 1)) rfl rfl (by kernel_rfl) (by kernel_rfl) (by kernel_rfl) (fun _ _ _ h => h) (Or.inl ⟨by kernel_rfl, fun w hSw => by (go_simp)⟩) (by assumption) ?_
      simp only [Act.put, List.setIfInBounds_toArray, List.set_cons_zero, List.set_cons_succ]
      refine take_oneH 47 (i := 11) (v := .slice (some ⟨bb, off, none⟩) rs.length capa) rfl rfl (by kernel_rfl) (by kernel_rfl) (by kernel_rfl) (fun _ _ _ h => h) (Or.inl ⟨by kernel_rfl, fun w hSw => by (go_simp)⟩) (by assumption) ?_
      simp only [Act.put, List.setIfInBounds_toArray, List.set_cons_zero, List.set_cons_succ]
      refine take_oneH 48 (i := 12) (v := .int .i64 j) rfl rfl (by kernel_rfl) (by kernel_rfl) (by kernel_rfl) (fun _ _ _ h => h) (Or.inl ⟨by kernel_rfl, fun w hSw => by (go_simp)⟩) (by assumption) ?_
      simp only [Act.put, List.setIfInBounds_toArray, List.set_cons_zero, List.set_cons_succ]
      refine take_oneH 49 (i := 13) (v := .pointer (some ⟨bb, off + j, none⟩)) rfl rfl (by kernel_rfl) (by kernel_rfl) (by kernel_rfl) (fun _ _ _ h => h) (Or.inl ⟨by kernel_rfl, fun w hSw => by (go_simp)⟩) (by assumption) ?_
      simp only [Act.put, List.setIfInBounds_toArray, List.set_cons_zero, List.set_cons_succ]
      refine take_oneH 50 (i := 14) (v := .string P) rfl rfl (by kernel_rfl) (by kernel_rfl) (by kernel_rfl) (fun _ _ _ h => h) (Or.inl ⟨by kernel_rfl, fun w hSw => by (go_simp)⟩) (by assumption) ?_
      simp only [Act.put, List.setIfInBounds_toArray, List.set_cons_zero, List.set_cons_succ]
      refine wpAnyH_ready (rs := [7]) (by kernel_rfl) (by simp) ?_
      refine AllReadyH.cons rfl (fun K hK => ?_) (AllReadyH.nil)
      go_simp
      go_at_call 5
      refine (CW _ HBd.out).mono ?_
      rintro e w3 ⟨rfl, h3⟩
      have e3 := HC.out w3 h3.vw.below
      have H3 := Lib.hid h3
      clear h3
      go_wp2_with fail
      refine hK.out _ _ e3 (fun hHeld => ?_)
      clear hK K
      try simp only [Act.put, List.setIfInBounds_toArray, List.set_cons_zero, List.set_cons_succ]
      refine wpAnyH_ready (rs := [15]) (by kernel_rfl) (by simp) ?_
      refine AllReadyH.cons rfl (fun K hK => ?_) (AllReadyH.nil)
      go_simp
      go_at_call 6
      refine (CRw _ _ H3.out).mono ?_
      rintro e w4 ⟨rfl, h4⟩
      have e4 := HC.out w4 h4.vw.below
      have H4 := Lib.hid h4
      clear h4
      go_wp2_with fail
      refine hK.out _ _ e4 (fun hHeld => ?_)
      clear hK K
      try simp only [Act.put, List.setIfInBounds_toArray, List.set_cons_zero, List.set_cons_succ]
      refine take_oneH 52 (i := 16) (v := .bool false) rfl rfl (by kernel_rfl) (by kernel_rfl) (by kernel_rfl) (fun _ _ _ h => h) (Or.inl ⟨by kernel_rfl, fun w hSw => by (go_simp)⟩) (by assumption) ?_
      simp only [Act.put, List.setIfInBounds_toArray, List.set_cons_zero, List.set_cons_succ]
      refine wpAnyH_done (by kernel_rfl) ?_ _
      clear CW CRw hcd e3 e4 hcw
      go_wp2
      go_roundw
      case rel => exact ⟨j + 1, x', by omega, by omega, by go_num, Lib.hid (show BB w1 l b g m c q r 0 (1 + 2 * (j + 1)) none x' x' _ from H4.out.le (by omega))⟩
      case measure => simp [intOf]; omega
    · have hmade : x.disk.made < 900000000 := by have := HBB.out.made2; omega
      obtain ⟨zs, v0, v2, cR, hzl, hrv⟩ := HBB.out.rb
      have hv := HBB.out.vw
      have HF := Lib.hid hv.fine
      have HCb := Lib.hid (show ∀ W, Below w1.heap.size w1 W → W.cell? ⟨w.heap.size, 0, none⟩ = some (.int .i64 root) ∧ W.cell? ⟨w.heap.size, 1, none⟩ = some (.int .i64 size) from fun W h => by
        have := keeps_of h HBl.out
        exact ⟨by simp [World.cell?, this], by simp [World.cell?, this]⟩)
      have HMk := Lib.hid hmade
      obtain ⟨R, hR⟩ : ∃ R, ndBlob true x root size = R := ⟨_, rfl⟩
      obtain ⟨S, E, hSE⟩ := loadedT_shape R
      obtain ⟨R2, hR2⟩ : ∃ R2, ndBlob false R.x root size = R2 := ⟨_, rfl⟩
      have C1 := loadT_any hv root size hr64 hz64
      rw [hR, hSE] at C1
      have C2 := fun y w (h : RVC q r w1.heap.size zs v0 v2 x y w) => rload_any h HF.out HMk.out root size hr64 hz64
      rw [hR, hSE] at C2
      have C3 := fun w (h : VW w1 l b g m c R.x w) => reach_tree h root size hr64 hz64
      rw [hR2] at C3
      have C4 := fun y w (h : RVC q r w1.heap.size zs v0 v2 R.x y w) (hf : FineV R.x) (hm : R.x.disk.made < 900000000) => rreach_any h hf hm root size hr64 hz64
      rw [hR2] at C4
      have hsz := hv.below.size
      obtain ⟨b0, b1⟩ := HCb.out wr hv.below
      have HRv := Lib.hid hrv
      have HC2 := Lib.hid C2
      have HC3 := Lib.hid C3
      have HC4 := Lib.hid C4
      clear hR hSE hR2 hrv C2 C3 C4 hzl hmade HBB HA hv
      have hways : (¬ (j : Int) < (rs.length : Int)) ∨ ((j : Int) < (rs.length : Int) ∧ ¬ (j : Int) < 39) := by omega
      clear hlt hj hj1
      rcases hways with hw1 | ⟨hw1, hw2⟩
      all_goals (
        go_upto_region 9 with fail
        go_wp2_with fail
        refine C1.mono ?_
        rintro e w3 ⟨rfl, hv3, hk3⟩
        have hrv3 := HRv.out.vkept hk3
        have C2 := HC2.out _ _ hrv3
        obtain ⟨b0, b1⟩ := HCb.out w3 hv3.below
        have HV3 := Lib.hid hv3
        clear hv3 hk3 hrv3 C1
        go_wp2_with fail
        refine C2.mono ?_
        rintro e w4 ⟨rfl, ⟨hf4, hd4⟩, hrv4, ht4⟩
        have hv4 := HV3.out.t8 ht4 HV3.out.below.size
        have C3 := HC3.out _ hv4
        obtain ⟨b0, b1⟩ := HCb.out w4 hv4.below
        have HRv4 := Lib.hid hrv4
        have HF4 := Lib.hid hf4
        have HM4 := Lib.hid (show R.x.disk.made < 900000000 by rw [hd4]; exact HMk.out)
        clear hv4 hf4 hd4 hrv4 ht4 C2
        go_wp2_with fail
        refine C3.mono ?_
        rintro e w5 ⟨v, rfl, hv5, hrow5, hk5⟩
        have C4 := HC4.out _ _ (HRv4.out.vkept hk5) HF4.out HM4.out
        obtain ⟨b0, b1⟩ := HCb.out w5 hv5.below
        have HV5 := Lib.hid hv5
        have HO5 := Lib.hid hrow5
        clear hv5 hrow5 hk5 C3
        go_wp2_with fail
        refine C4.mono ?_
        rintro e w6 ⟨u, rfl, _, _, ht6, hrow6⟩
        have hv6 := HV5.out.t8 ht6 HV5.out.below.size
        have HB6 := Lib.hid (HB1.out.trans (hv6.below.mono HB1.out.size))
        obtain ⟨L, hL1, hL2, hL3⟩ : ∃ L : List Int, IntsAt w6 v L ∧ IntsAt w6 u L ∧ L.length ≤ 281474976710656 := by
          rcases hrow6 with ⟨_, h6, h7⟩ | ⟨hne, rfl⟩
          · rcases HO5.out with ⟨_, h5⟩ | ⟨hne, rfl⟩
            · refine ⟨_, ints_of_vals (owns_keep h5 (fun k hk => ?_)), ints_of_vals h6, by omega⟩
              obtain ⟨C, hC⟩ := owns_block h5 hk
              exact (ht6.keep_low hC (by unfold K8; decide) (lt_of_heap hC)).trans hC.symm
            · omega
          · rcases HO5.out with ⟨h0, _⟩ | ⟨_, rfl⟩
            · omega
            · exact ⟨[], .inl ⟨rfl, rfl⟩, .inl ⟨rfl, rfl⟩, by simp⟩
        have CS := fun W (h : Below w6.heap.size w6 W) => same_any v u L L hL3 hL3 W (hL1.later h) (hL2.later h)
        simp only [decide_true] at CS
        have HCS := Lib.hid CS
        clear ht6 hrow6 hv6 hL1 hL2 hL3 CS C4
        go_wp2_with fail
        refine (CF _).mono ?_
        rintro e w7 ⟨rfl, hB7⟩
        have CS := HCS.out w7 hB7
        have HB7 := Lib.hid (HB6.out.trans (hB7.mono HB6.out.size))
        clear hB7
        go_wp2_with fail
        refine CS.mono ?_
        rintro e w8 ⟨rfl, hB8⟩
        have HB8 := Lib.hid (HB7.out.trans (hB8.mono HB7.out.size))
        clear hB8
        go_wp2
        go_ret
        exact ⟨rfl, HB8.out⟩)
set_option maxRecDepth 100000 in
/-- WHAT THE WALK GIVES, for every argument that can be read. -/
theorem contract (H : Type) (enc : TypeId × Value → H) (W : World) (base : Nat) (args : Array Value) (ds gs : List (DataW H)) (before : List MemPlace)
    (hval : ∀ (j : Nat) t v, Tryz.f3.params[j]? = some t → args[j]? = some v → Value.okWide Tryz.prog W .any base t v)
    (hW : DataW.Whole enc Tryz.prog Tryz.f3.params.toList Rows.treeLoadsSpec.vars false W args.toList ds gs before)
    (hreach : (DataW.weightsEach Tryz.prog (Tryz.f3.params.toList) ds).all (· ≤ reachBytes) = true) :
    Calls Tryz.prog 3 args W fun e W' => ∃ v, e = .returned v ∧ Rows.treeLoadsSpec.post enc Tryz.prog Tryz.f3 false true false false W args v W' := by
  have hW' := hW
  obtain ⟨p, q, hA0, hV, rfl, hfz, hnd⟩ := hW
  have hA : DataW.TrodAll enc Tryz.prog W 0 (fun _ => true) true Tryz.f3.params.toList args.toList ds p := hA0
  rw [Tryz.params3] at hA hval hreach
  obtain ⟨v0, v1, d0, d1, p0, p1, rfl, rfl, rfl, h0, h1⟩ := trodAll_two hA
  obtain ⟨rfl, rfl⟩ := trodVars_none hV
  obtain ⟨g1, z1, rfl, r1, q1, rfl, sh1⟩ := blob_open (hval 1 24 v1 rfl rfl) h1
  have lt0 : ∀ x ∈ p0, x.block < W.heap.size := fun x hx => hW'.lt x (by simp [hx])
  obtain ⟨l0, k0, r0⟩ := strs_open (hval 0 22 v0 rfl rfl) h0 lt0 hreach (j := 0) rfl rfl
  clear hA0 hval
  simp only [List.append_nil] at hW'
  refine (walk v0 l0 g1 z1 W k0 r0 r1 q1).mono fun e W' ⟨he, hB⟩ => ?_
  subst he
  exact ⟨_, rfl, post_of_below (pa := p0 ++ ([])) (pv := []) hW' (fun _ _ _ => trodAll_mk1 (shut_bool Tryz.underlying4 _)) (fun sp hsp => trodAll_mk2 (WideElems.Trod_stays laidOut (by kernel_rfl) (of_decide_eq_true (by kernel_rfl)) h0 (fun x hx => hB.same (lt0 x hx)) (fun x hx => hsp x (by simp [hx]))) (sh1 _ _)) (fun _ _ => rfl) (by simp) hB (ok_one (by kernel_rfl) rfl (okWide_bool_mk Tryz.underlying4 _))⟩

theorem reads (os : Os) {H : Type} (enc : TypeId × Value → H) : ∃ places, DataW.whole enc Tryz.prog ((laidWorld os).forCall (fun _ _ => 0) ⟨#[], #[.slice none 0 0, .agg #[.int .i64 0, .int .i64 0]], []⟩).memory Tryz.f3.params.toList Rows.treeLoadsSpec.vars false (#[.slice none 0 0, .agg #[.int .i64 0, .int .i64 0]] : Array Value).toList 8 = some ([.nil, .agg [.lit (.int .i64 0), .lit (.int .i64 0)]], [], places) :=
  ⟨[], by kernel_rfl⟩

set_option maxRecDepth 100000 in
theorem lifted (os : Os) (started : os.Started) (H : Type) (enc : TypeId × Value → H) (F : Stop.Interp) :
    ReturnsInHanded {} Tryz.checked os 3 .any ((OpenSpec.ofChange Rows.treeLoadsSpec).preRow enc Tryz.prog Tryz.f3 Rows.treeLoadsRow.domain false Rows.treeLoadsRow.laid) (((OpenSpec.ofChange Rows.treeLoadsSpec).at F).post enc Tryz.prog Tryz.f3 false true false false) := by
  obtain ⟨places, hx⟩ := reads os enc
  refine returnsInHanded_of_row (C := Tryz.checked) (s := OpenSpec.ofChange Rows.treeLoadsSpec) own started (by kernel_rfl) Tryz.func3
    (witness_row_at (enc := enc) (C := Tryz.checked) false (laidWorld os) #[.slice none 0 0, .agg #[.int .i64 0, .int .i64 0]] rfl (by kernel_rfl) (by kernel_rfl) (by kernel_rfl)
      (OpenSpec.preRow_of_cond 8 hx (by kernel_rfl) (fun k hk => by cases hk) (by kernel_rfl) (laid_met os _))) ?_
  intro W base args ds gs before hval hW _ hcond hreach hL _ _
  obtain ⟨p, q, hA0, hV, hpq, hfz, hnd⟩ := id hW
  obtain ⟨rfl, _⟩ := trodVars_none hV
  rw [List.append_nil] at hreach
  exact contract H enc W base args ds [] before hval hW hreach

theorem said : Rows.TreeLoadsSaid :=
  OpenClaim.holds_of_cond 3 Tryz.f3 rfl rfl rfl rfl rfl rfl rfl ⟨rfl, rfl, rfl, rfl, rfl⟩ rfl rfl rfl rfl rfl (by kernel_rfl) Tryz.func3 (by kernel_rfl)
    (of_decide_eq_true (by kernel_rfl)) (by unfold Func.isWrapper; first | (rw [if_pos (by decide +kernel)]; kernel_rfl) | (rw [if_neg (by decide +kernel)]; exact ⟨rfl, rfl⟩))
    (fun os started H enc _ F => by rw [OpenClaim.pre_eq_preRow]; exact lifted os started H enc F)



end Go.Proofs.YtmloljjllmmkoaaGreat.tloads

