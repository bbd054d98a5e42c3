/-
  TreK / TreL / TreM.
-/
import Derived.Test.YtmloljjllmmkoaaGreatTH
import Derived.Deep.RegionHeld3
namespace Go.Proofs.YtmloljjllmmkoaaGreat
open Go.ChangeShapes Go.WideShapes Go.ChangeAt Go.RowKit Go.Shelf Go Go.Maps SM PL AL TR

theorem rootOf_snoc (lvs : List (List Nat)) (now : List Nat) : rootOf (lvs ++ [now]) = now.getD 0 0 := by
  unfold rootOf
  have e : (lvs ++ [now]).getD ((lvs ++ [now]).length - 1) [] = now := by
    rw [List.getD_eq_getElem?_getD]
    simp
  rw [e]
def blobV (root size : Nat) : Value := .agg #[.int .i64 root, .int .i64 size]
section
variable {w0 w : World} {l b g m c pl n f k : Nat} {u : List UInt8} {M : Mem} {W P : Nat → Prop} {x : VS}
set_option maxRecDepth 100000 in
theorem store_long (root size : Int) (data : ByteArray) (hd : 16384 < data.size) (w : World) :
    Calls Tryz.prog 35 #[srcV l, .agg #[.int .i64 root, .int .i64 size], .string data, .pointer (some ⟨pl, 0, none⟩)] w fun e w' => e = .returned (.tuple #[blobV 0 0, .int .i64 111]) ∧ Below w.heap.size w w' := by
  have hdi : (16384 : Int) < (data.size : Int) := by omega
  obtain ⟨w2, hw2⟩ : ∃ w2, (w.alloc (.cells #[.int .i64 root, .int .i64 size] 24)).alloc (.cells #[.int .i64 0, .int .i64 0] 24) = w2 := ⟨_, rfl⟩
  have hB2 : Below w.heap.size w w2 := by rw [← hw2]; exact ((Below.refl _ w).alloc (Nat.le_refl _) _).alloc (by simp) _
  have hob2 : w2.heap[w.heap.size + 1]? = some (.cells #[.int .i64 0, .int .i64 0] 24 (0, 0)) := by
    rw [← hw2]
    have := heap_alloc_new (w.alloc (.cells #[.int .i64 root, .int .i64 size] 24)) (.cells #[.int .i64 0, .int .i64 0] 24)
    rwa [World.size_alloc] at this
  have q0 : w2.cell? ⟨w.heap.size + 1, 0, none⟩ = some (.int .i64 0) := by simp [World.cell?, hob2]
  have q1 : w2.cell? ⟨w.heap.size + 1, 1, none⟩ = some (.int .i64 0) := by simp [World.cell?, hob2]
  have f0 : w2.frozen? ⟨w.heap.size + 1, 0, none⟩ = false := by simp [World.frozen?, hob2]
  have f1 : w2.frozen? ⟨w.heap.size + 1, 1, none⟩ = false := by simp [World.frozen?, hob2]
  have HB2 := Lib.hid hB2
  have HZ := Lib.hid (Nat.le_succ w.heap.size)
  unfold blobV srcV
  clear hB2 hob2
  go_enter Tryz.func35, Tryz.ntmps35
  go_wp2
  refine bodyPost_ret ?_ rfl ⟨rfl, ?_⟩
  · rw [results_cell2 rfl]
    go_simp
  · exact below_set (below_set HB2.out HZ.out _) HZ.out _
set_option maxRecDepth 100000 in
set_option maxHeartbeats 8000000 in
theorem store_tree (h : TB w0 l b g m c pl u n f k M W x P w) {lv : List (List Nat)} {had : List UInt8} (ht : Tree M lv had) (hhad : had.length ≤ 16384) (hr : ∀ y ∈ lv.flatten, 1 ≤ y ∧ y < n ∧ (y ∈ (ord u n f).take k ∧ ¬ W y)) (data : ByteArray) (hd : data.size ≤ 16384) :
    Calls Tryz.prog 35 #[srcV l, blobV (rootOf lv) had.length, .string data, .pointer (some ⟨pl, 0, none⟩)] w fun e w' => ∃ (k' : Nat) (x' : VS) (P' : Nat → Prop), TB w0 l b g m c pl u n f k' (storeLv (decide ((rowsL data.size).length = lv.length)) (rowsL data.size) true lv had data.data.toList M ((ord u n f).drop k)).mem W x' P' w' ∧ (storeLv (decide ((rowsL data.size).length = lv.length)) (rowsL data.size) true lv had data.data.toList M ((ord u n f).drop k)).free = (ord u n f).drop k' ∧ k ≤ k' ∧ KK P w w' ∧ (∀ j, P' j → P j ∨ w.heap.size ≤ j) ∧
      (((storeLv (decide ((rowsL data.size).length = lv.length)) (rowsL data.size) true lv had data.data.toList M ((ord u n f).drop k)).ok = true ∧ e = .returned (.tuple #[blobV (rootOf (storeLv (decide ((rowsL data.size).length = lv.length)) (rowsL data.size) true lv had data.data.toList M ((ord u n f).drop k)).lv) data.size, .int .i64 0])) ∨
        ((storeLv (decide ((rowsL data.size).length = lv.length)) (rowsL data.size) true lv had data.data.toList M ((ord u n f).drop k)).ok = false ∧ e = .returned (.tuple #[blobV 0 0, .int .i64 112]))) := by
  obtain ⟨ks, hks⟩ : ∃ ks, rowsL data.size = ks := ⟨_, rfl⟩
  rw [hks]
  obtain ⟨al, hal⟩ : ∃ al, decide (ks.length = lv.length) = al := ⟨_, rfl⟩
  rw [hal]
  obtain ⟨R, hR⟩ : ∃ R, storeLv al ks true lv had data.data.toList M ((ord u n f).drop k) = R := ⟨_, rfl⟩
  rw [hR]
  have hn4 := h.pool.k_le
  have hroot : (rootOf lv : Int) ≤ 4096 := by
    by_cases hne : lv = []
    · subst hne; simp [rootOf]
    · have := (hr _ (root_mem ht hne)).2.1; omega
  obtain ⟨x1, hx1, hcalm1⟩ := ndBlob_tree ht hhad (by omega) hr true h.calm
  have hdisk : x1.disk = x.disk := by have := ndBlob_disk true x (rootOf lv : Nat) (had.length : Nat); rw [hx1] at this; exact this
  obtain ⟨w2, hw2⟩ : ∃ w2, (w.alloc (.cells #[.int .i64 (rootOf lv : Nat), .int .i64 (had.length : Nat)] 24)).alloc (.cells #[.int .i64 0, .int .i64 0] 24) = w2 := ⟨_, rfl⟩
  have hB2 : Below w.heap.size w w2 := by rw [← hw2]; exact ((Below.refl _ w).alloc (Nat.le_refl _) _).alloc (by simp) _
  have hob2 : w2.heap[w.heap.size + 1]? = some (.cells #[.int .i64 0, .int .i64 0] 24 (0, 0)) := by
    rw [← hw2]
    have := heap_alloc_new (w.alloc (.cells #[.int .i64 (rootOf lv : Nat), .int .i64 (had.length : Nat)] 24)) (.cells #[.int .i64 0, .int .i64 0] 24)
    rwa [World.size_alloc] at this
  have hob3 : w2.heap[w.heap.size]? = some (.cells #[.int .i64 (rootOf lv : Nat), .int .i64 (had.length : Nat)] 24 (0, 0)) := by rw [← hw2]; exact heap_alloc_old (heap_alloc_new _ _) _
  have d0 : w2.cell? ⟨w.heap.size, 0, none⟩ = some (.int .i64 (rootOf lv : Nat)) := by simp [World.cell?, hob3]
  have d1 : w2.cell? ⟨w.heap.size, 1, none⟩ = some (.int .i64 (had.length : Nat)) := by simp [World.cell?, hob3]
  have CL := load_tree (h.vw.later hB2) (rootOf lv : Nat) (had.length : Nat) ⟨by omega, by omega⟩ ⟨by omega, by omega⟩
  rw [hx1] at CL
  simp only at CL
  rw [rmax_visT] at CL
  have HH := Lib.hid h
  have HB2 := Lib.hid hB2
  have HOb2 := Lib.hid hob2
  have HC1 := Lib.hid hcalm1
  have HDk := Lib.hid hdisk
  have HT := Lib.hid ht
  have HKs := Lib.hid hks
  have HR := Lib.hid hR
  have HPw := Lib.hid (show ∀ j, P j → j < w.heap.size from fun j hj => (h.pool.lt hj).1)
  have HRng := Lib.hid hr
  have HOA := Lib.hid (fun (R' r : Nat) e1 e2 => old_all ht al (R := R') (r := r) e1 e2)
  have C1 := fun w => rows_any data.size hd w
  obtain ⟨K, hK⟩ : ∃ K, ks.length = K := ⟨_, rfl⟩
  rw [hks, hK] at C1
  have hK3 : K ≤ 3 := by rw [← hK, ← hks]; exact (rows_sum hd).2.2
  have HK := Lib.hid hK
  have HStep := Lib.hid (show ∀ r (hr : r < ks.length), ks[r] = cuts (if r = 0 then data.size else 4 * ks.getD (r - 1) 0) ∧ 1 ≤ ks[r] from fun r hr => by subst hks; exact rows_step hd hr)
  have hdi : ¬ (16384 : Int) < (data.size : Int) := by omega
  obtain ⟨A0, hA0⟩ : ∃ A0, had.length = A0 := ⟨_, rfl⟩
  unfold blobV
  rw [hA0] at CL d1 hw2 ⊢
  generalize rootOf lv = rt0 at *
  by_cases hal2 : K = lv.length
  · have hal3 : al = true := by rw [← hal, hK]; simp [hal2]
    have HAl := Lib.hid hal3
    have HLv := Lib.hid hal2
    rw [← hal2] at CL
    clear hal hal2 hal3 h ht hr hn4 hroot hx1 hcalm1 hdisk hB2 hob2 hob3 hks hR hK hA0 hhad
    unfold srcV at *
    go_enter Tryz.func35, Tryz.ntmps35
    go_wp2_with fail
    refine CL.mono ?_
    rintro e w3 ⟨p, rfl, hv3, hl3, hk3⟩
    obtain ⟨⟨rv, us, hld, hus⟩, _⟩ := hl3 (by trivial)
    obtain ⟨a, cap, rfl⟩ := row_shape hld.row
    rw [hus] at hld
    have HLD := Lib.hid hld
    have HUS := Lib.hid hus
    have c1 := LoObj.c1 hld.obj
    have HV3 := Lib.hid hv3
    have HK3 := Lib.hid hk3
    obtain ⟨w4, hw4⟩ : ∃ w4, w3.alloc (.cells #[.iface 25 (.pointer (some ⟨l, 0, none⟩)), .pointer (some ⟨pl, 0, none⟩), .slice a K cap] 147) = w4 := ⟨_, rfl⟩
    have hB4 : Below w3.heap.size w3 w4 := by rw [← hw4]; exact (Below.refl _ w3).alloc (Nat.le_refl _) _
    have c4 := (hB4.cell (p := ⟨p, 1, none⟩) (lt_of_heap hld.obj)).trans c1
    have hs4 : w4.heap[w3.heap.size]? = some (StObj l pl (.slice a K cap)) := by rw [← hw4]; exact heap_alloc_new _ _
    have HB4 := Lib.hid hB4
    have HS4 := Lib.hid hs4
    have HPs := Lib.hid (show ¬ P w3.heap.size from fun e => by have := HPw.out _ e; have := HB2.out.size; have := hk3.size_le; omega)
    have HQ4 := Lib.hid (show w4.heap[w.heap.size + 1]? = some (.cells #[.int .i64 0, .int .i64 0] 24 (0, 0)) from keeps_of hB4 (hk3.kept HOb2.out (by unfold VK; decide)))
    have HQs := Lib.hid (show ¬ P (w.heap.size + 1) from fun e => by have := HPw.out _ e; omega)
    have HTB3 := Lib.hid (show TB w0 l b g m c pl u n f k M W x1 P w3 from ⟨HV3.out, HC1.out, (HH.out.pool.later HB2.out).vkeep HK3.out, by rw [HDk.out]; exact HH.out.made, HH.out.skip⟩)
    have HOld := Lib.hid (HLD.out.old HUS.out (Nat.le_refl K))
    clear hv3 hl3 hk3 hld hus hB4 hs4 CL d0 d1 hw2
    go_wp2
    go_region_held3 (fun w' => w'.cell? ⟨p, 1, none⟩ = some (.slice a K cap)) (first | exact c4)
      (first | (go_at_call 68; refine (C1 _).mono ?_; rintro e w' ⟨rfl, rfl⟩))
    obtain ⟨wL, hwL⟩ : ∃ wL, w4.drew = wL := ⟨_, rfl⟩
    have HBL := Lib.hid (show Below w3.heap.size w3 wL by rw [← hwL]; exact HB4.out.drew)
    have HSL := Lib.hid (show wL.heap[w3.heap.size]? = some (StObj l pl (.slice a K cap)) by rw [← hwL]; exact HS4.out)
    have HQL := Lib.hid (show wL.heap[w.heap.size + 1]? = some (.cells #[.int .i64 0, .int .i64 0] 24 (0, 0)) by rw [← hwL]; exact HQ4.out)
    have HOL := Lib.hid (show OldAt (.slice a K cap) ((List.range K).map fun j => levOf j (visT M lv true)) wL from HOld.out.below HBL.out)
    have HOr := Lib.hid (show ∀ r, r < K → ((List.range K).map fun j => levOf j (visT M lv true)).getD r [] = _ from fun r hr => HOA.out K r (by rw [HAl.out, if_pos rfl]; exact HLv.out) (fun _ => by rw [← HLv.out]; exact hr))
    rw [hwL]
    generalize (List.range K).map (fun j => levOf j (visT M lv true)) = OL at *
    generalize Value.slice a K cap = ov at *
    clear hw4 hwL c1 c4 HLD HUS HOld
    have HTBL := Lib.hid (HTB3.out.later HBL.out)
    have HKKL := Lib.hid (show KK P w wL from ((KK.of_below HB2.out : KK P _ _).trans (KK.of_vkeep HK3.out : KK P _ _) (fun i hi => .inl hi)).trans (KK.of_below HBL.out : KK P _ _) (fun i hi => .inl hi))
    have HsL := Lib.hid (lt_of_heap HSL.out)
    have HqL := Lib.hid (lt_of_heap HQL.out)
    have HwL := Lib.hid HKKL.out.size
    have HEnd := Lib.hid (show ∀ (kr : Nat) (Mr : Mem) (xr : VS) (Pr : Nat → Prop) (wr : World) (z0 z1 : Value), TB w0 l b g m c pl u n f kr Mr W xr Pr wr → KK P wL wr → (∀ j, Pr j → P j ∨ wL.heap.size ≤ j) → TB w0 l b g m c pl u n f kr Mr W xr Pr ((wr.setCell ⟨w.heap.size + 1, 0, none⟩ z0).setCell ⟨w.heap.size + 1, 1, none⟩ z1) ∧ KK P w ((wr.setCell ⟨w.heap.size + 1, 0, none⟩ z0).setCell ⟨w.heap.size + 1, 1, none⟩ z1) ∧ (∀ j, Pr j → P j ∨ w.heap.size ≤ j) from fun kr Mr xr Pr wr z0 z1 h1 h2 h3 => by
      have hs5 : Stir (fun j => j = w.heap.size + 1) wr ((wr.setCell ⟨w.heap.size + 1, 0, none⟩ z0).setCell ⟨w.heap.size + 1, 1, none⟩ z1) := ((Stir.refl (fun j => j = w.heap.size + 1) wr).set (b := w.heap.size + 1) (.inl rfl) z0).set (b := w.heap.size + 1) (.inl rfl) z1
      refine ⟨h1.own hs5 (fun i hi => ?_), (HKKL.out.trans h2 (fun i hi => .inl hi)).trans (KK.of_stir hs5) (fun i hi => .inr (by omega)), fun j hj => ?_⟩
      · subst hi
        refine ⟨Nat.le_trans HH.out.vw.below.size (Nat.le_succ _), ⟨_, _, _, h2.keep HQL.out (by unfold VK; decide) HQs.out, by unfold VK; decide⟩, fun e => ?_⟩
        rcases h3 _ e with e | e
        · exact HQs.out e
        · have := HqL.out; omega
      · rcases h3 j hj with e | e
        · exact .inl e
        · exact .inr (Nat.le_trans HwL.out e))
    go_wp2_with fail
    refine (C1 _).mono ?_
    rintro e w' ⟨rfl, rfl⟩
    go_wp2
    go_loopw [13, 14, 67] (fun root text i wr => ∃ (r rt kr : Nat) (bt : List UInt8) (Mr : Mem) (xr : VS) (Pr : Nat → Prop) (lvs : List (List Nat)), r ≤ K ∧ i = .int .i64 (r : Nat) ∧ root = .int .i64 (rt : Nat) ∧ text = .string (bsL bt) ∧ Hid (rt = rootOf lvs ∧ lvs.length = r ∧ bt.length ≤ 16384) ∧ Hid (∀ hr : r < ks.length, ks[r] = cuts bt.length) ∧ Hid (TB w0 l b g m c pl u n f kr Mr W xr Pr wr) ∧ Hid (k ≤ kr) ∧ Hid (KK P wL wr) ∧ Hid (∀ j, Pr j → P j ∨ wL.heap.size ≤ j) ∧
      Hid (R = ⟨(storeLv al (ks.drop r) (decide (r = 0)) (lv.drop r) (hadOf lv had r) bt Mr ((ord u n f).drop kr)).ok, lvs ++ (storeLv al (ks.drop r) (decide (r = 0)) (lv.drop r) (hadOf lv had r) bt Mr ((ord u n f).drop kr)).lv, (storeLv al (ks.drop r) (decide (r = 0)) (lv.drop r) (hadOf lv had r) bt Mr ((ord u n f).drop kr)).mem, (storeLv al (ks.drop r) (decide (r = 0)) (lv.drop r) (hadOf lv had r) bt Mr ((ord u n f).drop kr)).free⟩)) (fun _ _ i _ => K - (intOf i).toNat)
    case atStart => exact ⟨0, 0, k, data.data.toList, M, x1, P, [], Nat.zero_le _, rfl, rfl, by rw [bsL_data], Lib.hid ⟨rfl, rfl, by rw [len_of]; exact hd⟩, Lib.hid (fun hr => by have := (HStep.out 0 hr).1; rw [if_pos rfl] at this; rw [this, len_of]), HTBL, Lib.hid (Nat.le_refl _), Lib.hid (KK.of_below (Below.refl _ _)), Lib.hid (fun j hj => .inl hj), Lib.hid (by
      show R = ⟨(storeLv al ks true lv had data.data.toList M ((ord u n f).drop k)).ok, (storeLv al ks true lv had data.data.toList M ((ord u n f).drop k)).lv, (storeLv al ks true lv had data.data.toList M ((ord u n f).drop k)).mem, (storeLv al ks true lv had data.data.toList M ((ord u n f).drop k)).free⟩
      rw [HR.out])⟩
    case round =>
      obtain ⟨r, rt, kr, bt, Mr, xr, Pr, lvs, hrK, rfl, rfl, rfl, HF, HCu, HTB, HKr, HKK, HPr, HQ⟩ := hrel
      by_cases hlt : r < K
      · have hri : (r : Int) < (K : Int) := by omega
        have HLt := Lib.hid hlt
        have hrk : r < ks.length := by rw [HK.out]; exact hlt
        have hcut := HCu.out hrk
        have hstp := (HStep.out r hrk).2
        have CLay := tlay_any (HKK.out.keep HSL.out (by unfold VK; decide) HPs.out) (fun e => by
          rcases HPr.out _ e with e | e
          · exact HPs.out e
          · have := HsL.out; omega) (HOL.out.kk HTBL.out.pool HKK.out) HTB.out (row := r) (by omega) (HOr.out r hlt) HF.out.2.2
        obtain ⟨r1, hr1⟩ : ∃ r1, storeRow (if decide (r = 0) || al then (lv.drop r).headD [] else []) (hadOf lv had r) bt (cuts bt.length) 0 Mr ((ord u n f).drop kr) = r1 := ⟨_, rfl⟩
        rw [hr1] at CLay
        have hdrop : ks.drop r = cuts bt.length :: ks.drop (r + 1) := by rw [List.drop_eq_getElem_cons hrk, hcut]
        have hst := lv_step al (cuts bt.length) (ks.drop (r + 1)) (decide (r = 0)) (lv.drop r) (hadOf lv had r) bt Mr ((ord u n f).drop kr) hr1
        rw [← hdrop, List.tail_drop, show ptrs ((lv.drop r).headD []) = hadOf lv had (r + 1) by rw [List.headD_eq_head?_getD, List.head?_drop, hadOf, List.getD_eq_getElem?_getD]] at hst
        have HSt := Lib.hid hst
        have HLen := Lib.hid (show r1.ok = true → r1.now.length = cuts bt.length from fun e => by rw [← hr1] at e ⊢; exact row_len _ _ _ _ e)
        have HIn := Lib.hid (show ∀ y ∈ r1.now, y < 4294967296 from fun y hy => by
          rw [← hr1] at hy
          have hn5 := HH.out.pool.k_le.2.2
          rcases row_in _ _ _ _ _ hy with h1 | h1
          · have h2 : y ∈ lv.flatten := by
              split at h1
              · have h3 := headD_mem h1
                rw [List.mem_flatten] at h3 ⊢
                obtain ⟨z, hz, hz2⟩ := h3
                exact ⟨z, List.mem_of_mem_drop hz, hz2⟩
              · simp at h1
            have := (HRng.out y h2).2.1
            omega
          · have := (mem_frees.1 (mem_ord.1 (List.mem_of_mem_drop h1))).1
            omega)
        have HPos := Lib.hid (show 1 ≤ cuts bt.length by rw [← hcut]; exact hstp)
        have HNx := Lib.hid (show ∀ hr : r + 1 < ks.length, ks[r + 1] = cuts (4 * cuts bt.length) from fun hr => by
          have := (HStep.out (r + 1) hr).1
          rw [if_neg (by omega), show r + 1 - 1 = r by omega, getD_at ks r 0 hrk, hcut] at this
          exact this)
        clear hr1 hst hdrop hcut hstp hrk
        go_wp2_with fail
        refine CLay.mono ?_
        rintro e w5 ⟨v, k', x', P', hTB5, hfr5, hk5, hKK5, hP5, hE⟩
        have HTB5 := Lib.hid hTB5
        have HFr5 := Lib.hid hfr5
        have HK5 := Lib.hid (Nat.le_trans HKr.out hk5)
        have HKK5 := Lib.hid (HKK.out.trans hKK5 HPr.out)
        have HP5 := Lib.hid (show ∀ j, P' j → P j ∨ wL.heap.size ≤ j from fun j hj => by
          rcases hP5 j hj with e | e
          · exact HPr.out j e
          · exact .inr (Nat.le_trans HKK.out.size e))
        have hq5 := HKK5.out.keep HQL.out (by unfold VK; decide) HQs.out
        have k0 : w5.cell? ⟨w.heap.size + 1, 0, none⟩ = some (.int .i64 0) := by simp [World.cell?, hq5]
        have k1 : w5.cell? ⟨w.heap.size + 1, 1, none⟩ = some (.int .i64 0) := by simp [World.cell?, hq5]
        have z0 : w5.frozen? ⟨w.heap.size + 1, 0, none⟩ = false := by simp [World.frozen?, hq5]
        have z1 : w5.frozen? ⟨w.heap.size + 1, 1, none⟩ = false := by simp [World.frozen?, hq5]
        clear hTB5 hfr5 hk5 hKK5 hP5 CLay hq5
        rcases hE with ⟨hok, rfl, hrow, hsep⟩ | ⟨hok, rfl, rfl⟩
        · have HOk := Lib.hid hok
          have hlen := HLen.out hok
          have hpos := HPos.out
          obtain ⟨g', capv, rfl, _, hg, _, _, hcs⟩ := row_cells' hrow (fun e => by
            rcases hrow.2 with ⟨_, h0⟩ | ⟨_, _, _, h1, _⟩
            · omega
            · rw [e] at h1; cases h1)
          have hn0 : 0 < r1.now.length := by omega
          have cg := hcs 0 (.int .i64 (r1.now[0] : Nat)) (by simp [ints, hn0])
          have HN0 := Lib.hid (show r1.now[0] = rootOf (lvs ++ [r1.now]) by
            rw [rootOf_snoc]
            exact (getD_at _ 0 0 hn0).symm)
          have h69 : r1.now.length ≤ 69 := by
            have := HF.out.2.2
            rw [hlen]
            unfold cuts
            omega
          have CP := fun W' (hW : Below w5.heap.size w5 W') => pointersTo_any (owns_below hrow hW) (fun e => by rw [e] at hn0; simp at hn0) (by omega) HIn.out
          obtain ⟨n0, hn0'⟩ : ∃ n0, r1.now[0] = n0 := ⟨_, rfl⟩
          rw [hn0'] at cg HN0
          obtain ⟨N, hN⟩ : ∃ N, r1.now.length = N := ⟨_, rfl⟩
          have HNl := Lib.hid hN
          have HHl := Lib.hid hlen
          rw [hN] at CP h69
          rw [hN]
          have hNi : (0 : Int) < (N : Int) := by omega
          have hNn : 0 < N := by omega
          have HG := Lib.hid hg
          have HQ5 := Lib.hid (show R = ⟨(storeLv al (ks.drop (r + 1)) (decide (r + 1 = 0)) (lv.drop (r + 1)) (hadOf lv had (r + 1)) (ptrs r1.now) r1.mem ((ord u n f).drop k')).ok, (lvs ++ [r1.now]) ++ (storeLv al (ks.drop (r + 1)) (decide (r + 1 = 0)) (lv.drop (r + 1)) (hadOf lv had (r + 1)) (ptrs r1.now) r1.mem ((ord u n f).drop k')).lv, (storeLv al (ks.drop (r + 1)) (decide (r + 1 = 0)) (lv.drop (r + 1)) (hadOf lv had (r + 1)) (ptrs r1.now) r1.mem ((ord u n f).drop k')).mem, (storeLv al (ks.drop (r + 1)) (decide (r + 1 = 0)) (lv.drop (r + 1)) (hadOf lv had (r + 1)) (ptrs r1.now) r1.mem ((ord u n f).drop k')).free⟩ by
            have hq := HQ.out
            rw [HSt.out, if_pos hok, HFr5.out] at hq
            rw [hq, show decide (r + 1 = 0) = false by simp, List.append_assoc]
            rfl)
          clear hok hrow hsep hcs hlen hpos hn0 hn0' hN HQ HSt hg
          go_wp2
          go_region_held3 (fun w' => w'.cell? ⟨g', 0, none⟩ = some (.int .i64 (n0 : Nat))) (first | exact cg | exact cg2)
            (first | (go_at_call 73; refine (CP _ ((Below.refl _ _).drew)).mono ?_; rintro e w6 ⟨rfl, hB6⟩; have HB6 := Lib.hid (show Below w5.heap.size w5 w6 from ((Below.refl _ w5).drew).trans hB6); have cg2 : w6.cell? ⟨g', 0, none⟩ = some (.int .i64 (n0 : Nat)) := (HB6.out.cell (p := ⟨g', 0, none⟩) HG.out).trans cg; clear hB6))
          all_goals (
            go_wp2
            go_roundw
            case rel => exact ⟨r + 1, n0, k', ptrs r1.now, r1.mem, x', P', lvs ++ [r1.now], by have := HLt.out; omega, by go_num, rfl, rfl, Lib.hid ⟨HN0.out, by rw [List.length_append, HF.out.2.1]; rfl, by rw [length_ptrs, HNl.out]; omega⟩, Lib.hid (fun hr => by rw [length_ptrs, HHl.out]; exact HNx.out hr), Lib.hid (HTB5.out.later HB6.out), HK5, Lib.hid (HKK5.out.trans (KK.of_below HB6.out : KK P _ _) (fun i hi => .inl hi)), HP5, HQ5⟩
            case measure => have := HLt.out; exact (show ∀ r : Nat, r < K → K - ((r : Int) + 1).toNat < K - (r : Int).toNat from fun r hr => by omega) r HLt.out)
        · have HQ5 := Lib.hid (show R = ⟨false, lvs, r1.mem, (ord u n f).drop k'⟩ by
            have hq := HQ.out
            rw [HSt.out, if_neg (by rw [hok]; simp), HFr5.out] at hq
            rw [hq, List.append_nil])
          clear hok HQ HSt
          go_wp2
          have hEnd := HEnd.out k' r1.mem x' P' w5 (.int .i64 0) (.int .i64 0) HTB5.out HKK5.out HP5.out
          refine bodyPost_ret ?_ rfl ⟨k', x', P', by rw [HQ5.out]; exact hEnd.1, by rw [HQ5.out], HK5.out, hEnd.2.1, hEnd.2.2, .inr ⟨by rw [HQ5.out], rfl⟩⟩
          rw [results_cell2 rfl]
          go_simp
      · obtain rfl : r = K := by omega
        have hri : ¬ (r : Int) < (r : Int) := by omega
        have hqr := HKK.out.keep HQL.out (by unfold VK; decide) HQs.out
        have k0 : wr.cell? ⟨w.heap.size + 1, 0, none⟩ = some (.int .i64 0) := by simp [World.cell?, hqr]
        have k1 : wr.cell? ⟨w.heap.size + 1, 1, none⟩ = some (.int .i64 0) := by simp [World.cell?, hqr]
        have z0 : wr.frozen? ⟨w.heap.size + 1, 0, none⟩ = false := by simp [World.frozen?, hqr]
        have z1 : wr.frozen? ⟨w.heap.size + 1, 1, none⟩ = false := by simp [World.frozen?, hqr]
        have HQ5 := Lib.hid (show R = ⟨true, lvs, Mr, (ord u n f).drop kr⟩ by
          have hq := HQ.out
          rw [List.drop_eq_nil_of_le (by rw [HK.out]; exact Nat.le_refl _), storeLv] at hq
          rw [hq, List.append_nil])
        have HRt := Lib.hid (show (rt : Int) = (rootOf R.lv : Nat) by rw [HQ5.out]; rw [HF.out.1])
        clear hqr HQ
        go_wp2
        have hEnd := HEnd.out kr Mr xr Pr wr (.int .i64 (rt : Nat)) (.int .i64 (data.size : Nat)) HTB.out HKK.out HPr.out
        refine bodyPost_ret ?_ rfl ⟨kr, xr, Pr, by rw [HQ5.out]; exact hEnd.1, by rw [HQ5.out], HKr.out, hEnd.2.1, hEnd.2.2, .inl ⟨by rw [HQ5.out], rfl⟩⟩
        rw [results_cell2 rfl]
        go_simp
        rw [HRt.out]
  · have hal3 : al = false := by rw [← hal, hK]; simp [hal2]
    have HAl := Lib.hid hal3
    have HNe := Lib.hid hal2
    have hneb : ((lv.length : Int) != (K : Int)) = true := by rw [bne_iff_ne]; omega
    obtain ⟨R0, hR0⟩ : ∃ R0, lv.length = R0 := ⟨_, rfl⟩
    have HR0 := Lib.hid hR0
    rw [hR0] at CL hneb
    obtain ⟨R1, hR1⟩ : ∃ R1, min R0 1 = R1 := ⟨_, rfl⟩
    have hmin : min (R0 : Int) 1 = (R1 : Int) := by omega
    have hmin2 : (if (1 : Int) < (R0 : Int) then (1 : Int) else (R0 : Int)) = (R1 : Int) := by split <;> omega
    have HR1 := Lib.hid hR1
    clear hR0 hR1
    clear hal hal2 hal3 h ht hr hn4 hroot hx1 hcalm1 hdisk hB2 hob2 hob3 hks hR hK hA0 hhad
    unfold srcV at *
    go_enter Tryz.func35, Tryz.ntmps35
    go_wp2_with fail
    refine CL.mono ?_
    rintro e w3 ⟨p, rfl, hv3, hl3, hk3⟩
    obtain ⟨⟨rv, us, hld, hus⟩, _⟩ := hl3 (by trivial)
    obtain ⟨a, cap, rfl⟩ := row_shape hld.row
    rw [hus] at hld
    have HLD := Lib.hid hld
    have HUS := Lib.hid hus
    have c1 := LoObj.c1 hld.obj
    have HV3 := Lib.hid hv3
    have HK3 := Lib.hid hk3
    obtain ⟨w4, hw4⟩ : ∃ w4, w3.alloc (.cells #[.iface 25 (.pointer (some ⟨l, 0, none⟩)), .pointer (some ⟨pl, 0, none⟩), .slice a R0 cap] 147) = w4 := ⟨_, rfl⟩
    have hB4 : Below w3.heap.size w3 w4 := by rw [← hw4]; exact (Below.refl _ w3).alloc (Nat.le_refl _) _
    have c4 := (hB4.cell (p := ⟨p, 1, none⟩) (lt_of_heap hld.obj)).trans c1
    have hs4 : w4.heap[w3.heap.size]? = some (StObj l pl (.slice a R0 cap)) := by rw [← hw4]; exact heap_alloc_new _ _
    have HB4 := Lib.hid hB4
    have HS4 := Lib.hid hs4
    have HPs := Lib.hid (show ¬ P w3.heap.size from fun e => by have := HPw.out _ e; have := HB2.out.size; have := hk3.size_le; omega)
    have HQ4 := Lib.hid (show w4.heap[w.heap.size + 1]? = some (.cells #[.int .i64 0, .int .i64 0] 24 (0, 0)) from keeps_of hB4 (hk3.kept HOb2.out (by unfold VK; decide)))
    have HQs := Lib.hid (show ¬ P (w.heap.size + 1) from fun e => by have := HPw.out _ e; omega)
    have HTB3 := Lib.hid (show TB w0 l b g m c pl u n f k M W x1 P w3 from ⟨HV3.out, HC1.out, (HH.out.pool.later HB2.out).vkeep HK3.out, by rw [HDk.out]; exact HH.out.made, HH.out.skip⟩)
    have hR01 : R1 ≤ R0 := by have := HR1.out; omega
    have HOld := Lib.hid (HLD.out.old HUS.out hR01)
    have hcap : R0 ≤ cap ∧ (a = none ∨ ∃ q, a = some ⟨q, 0, none⟩) := by
      have h1 := hld.row
      rcases h1.2 with ⟨e1, e2⟩ | ⟨g', cap', cur, e1, e2, e3, e4, e5⟩
      · injection e1 with e1 e2 e3; exact ⟨by omega, .inl e1⟩
      · injection e1 with e1 e2 e3; subst e3; exact ⟨by omega, .inr ⟨g', e1⟩⟩
    have hsl := slice_rows a R0 cap R1 (by omega) hcap.2
    have hp4 := keeps_of hB4 hld.obj
    have hps : p ≠ w3.heap.size := fun e => by have := lt_of_heap hld.obj; omega
    have c5 := LoObj.c1 (heap_set_other hp4 hps (i := 2) (.slice a R1 cap))
    have k2 := StObj.c2 hs4
    have fz2 := StObj.fr hs4 2
    clear hv3 hl3 hk3 hld hus hB4 hs4 CL d0 d1 hw2 hcap hR01 hp4 hps
    go_wp2
    go_region_held3 (fun w' => w'.cell? ⟨p, 1, none⟩ = some (.slice a R0 cap)) (first | exact c4)
      (first | (go_at_call 68; refine (C1 _).mono ?_; rintro e w' ⟨rfl, rfl⟩))
    go_wp2
    go_region_held3 (fun w' => w'.cell? ⟨p, 1, none⟩ = some (.slice a R0 cap)) (first | exact c4 | exact c5)
      (first | fail)
    obtain ⟨wL, hwL⟩ : ∃ wL, (w4.setCell ⟨w3.heap.size, 2, none⟩ (.slice a R1 cap)).drew.drew = wL := ⟨_, rfl⟩
    have HBL := Lib.hid (show Below w3.heap.size w3 wL by rw [← hwL]; exact ((below_set HB4.out (Nat.le_refl _) _).drew).drew)
    have HSL := Lib.hid (show wL.heap[w3.heap.size]? = some (StObj l pl (.slice a R1 cap)) by rw [← hwL]; exact StObj.set2 HS4.out _)
    have HQL := Lib.hid (show wL.heap[w.heap.size + 1]? = some (.cells #[.int .i64 0, .int .i64 0] 24 (0, 0)) by rw [← hwL]; exact heap_set_other HQ4.out (ne_of_heap HQ4.out HS4.out (by simp [StObj])) _)
    have HOL := Lib.hid (show OldAt (.slice a R1 cap) ((List.range R1).map fun j => levOf j (visT M lv true)) wL from HOld.out.below HBL.out)
    have HOr := Lib.hid (show ∀ r, r < K → ((List.range R1).map fun j => levOf j (visT M lv true)).getD r [] = _ from fun r hr => HOA.out R1 r (by rw [HAl.out, HR0.out]; exact HR1.out.symm) (fun e => by rw [HAl.out] at e; cases e))
    rw [hwL]
    generalize (List.range R1).map (fun j => levOf j (visT M lv true)) = OL at *
    generalize Value.slice a R1 cap = ov at *
    clear hw4 hwL c1 c4 c5 k2 fz2 hsl hmin hmin2 hneb HLD HUS HOld
    have HTBL := Lib.hid (HTB3.out.later HBL.out)
    have HKKL := Lib.hid (show KK P w wL from ((KK.of_below HB2.out : KK P _ _).trans (KK.of_vkeep HK3.out : KK P _ _) (fun i hi => .inl hi)).trans (KK.of_below HBL.out : KK P _ _) (fun i hi => .inl hi))
    have HsL := Lib.hid (lt_of_heap HSL.out)
    have HqL := Lib.hid (lt_of_heap HQL.out)
    have HwL := Lib.hid HKKL.out.size
    have HEnd := Lib.hid (show ∀ (kr : Nat) (Mr : Mem) (xr : VS) (Pr : Nat → Prop) (wr : World) (z0 z1 : Value), TB w0 l b g m c pl u n f kr Mr W xr Pr wr → KK P wL wr → (∀ j, Pr j → P j ∨ wL.heap.size ≤ j) → TB w0 l b g m c pl u n f kr Mr W xr Pr ((wr.setCell ⟨w.heap.size + 1, 0, none⟩ z0).setCell ⟨w.heap.size + 1, 1, none⟩ z1) ∧ KK P w ((wr.setCell ⟨w.heap.size + 1, 0, none⟩ z0).setCell ⟨w.heap.size + 1, 1, none⟩ z1) ∧ (∀ j, Pr j → P j ∨ w.heap.size ≤ j) from fun kr Mr xr Pr wr z0 z1 h1 h2 h3 => by
      have hs5 : Stir (fun j => j = w.heap.size + 1) wr ((wr.setCell ⟨w.heap.size + 1, 0, none⟩ z0).setCell ⟨w.heap.size + 1, 1, none⟩ z1) := ((Stir.refl (fun j => j = w.heap.size + 1) wr).set (b := w.heap.size + 1) (.inl rfl) z0).set (b := w.heap.size + 1) (.inl rfl) z1
      refine ⟨h1.own hs5 (fun i hi => ?_), (HKKL.out.trans h2 (fun i hi => .inl hi)).trans (KK.of_stir hs5) (fun i hi => .inr (by omega)), fun j hj => ?_⟩
      · subst hi
        refine ⟨Nat.le_trans HH.out.vw.below.size (Nat.le_succ _), ⟨_, _, _, h2.keep HQL.out (by unfold VK; decide) HQs.out, by unfold VK; decide⟩, fun e => ?_⟩
        rcases h3 _ e with e | e
        · exact HQs.out e
        · have := HqL.out; omega
      · rcases h3 j hj with e | e
        · exact .inl e
        · exact .inr (Nat.le_trans HwL.out e))
    go_wp2_with fail
    refine (C1 _).mono ?_
    rintro e w' ⟨rfl, rfl⟩
    go_wp2
    go_loopw [13, 14, 67] (fun root text i wr => ∃ (r rt kr : Nat) (bt : List UInt8) (Mr : Mem) (xr : VS) (Pr : Nat → Prop) (lvs : List (List Nat)), r ≤ K ∧ i = .int .i64 (r : Nat) ∧ root = .int .i64 (rt : Nat) ∧ text = .string (bsL bt) ∧ Hid (rt = rootOf lvs ∧ lvs.length = r ∧ bt.length ≤ 16384) ∧ Hid (∀ hr : r < ks.length, ks[r] = cuts bt.length) ∧ Hid (TB w0 l b g m c pl u n f kr Mr W xr Pr wr) ∧ Hid (k ≤ kr) ∧ Hid (KK P wL wr) ∧ Hid (∀ j, Pr j → P j ∨ wL.heap.size ≤ j) ∧
      Hid (R = ⟨(storeLv al (ks.drop r) (decide (r = 0)) (lv.drop r) (hadOf lv had r) bt Mr ((ord u n f).drop kr)).ok, lvs ++ (storeLv al (ks.drop r) (decide (r = 0)) (lv.drop r) (hadOf lv had r) bt Mr ((ord u n f).drop kr)).lv, (storeLv al (ks.drop r) (decide (r = 0)) (lv.drop r) (hadOf lv had r) bt Mr ((ord u n f).drop kr)).mem, (storeLv al (ks.drop r) (decide (r = 0)) (lv.drop r) (hadOf lv had r) bt Mr ((ord u n f).drop kr)).free⟩)) (fun _ _ i _ => K - (intOf i).toNat)
    case atStart => exact ⟨0, 0, k, data.data.toList, M, x1, P, [], Nat.zero_le _, rfl, rfl, by rw [bsL_data], Lib.hid ⟨rfl, rfl, by rw [len_of]; exact hd⟩, Lib.hid (fun hr => by have := (HStep.out 0 hr).1; rw [if_pos rfl] at this; rw [this, len_of]), HTBL, Lib.hid (Nat.le_refl _), Lib.hid (KK.of_below (Below.refl _ _)), Lib.hid (fun j hj => .inl hj), Lib.hid (by
      show R = ⟨(storeLv al ks true lv had data.data.toList M ((ord u n f).drop k)).ok, (storeLv al ks true lv had data.data.toList M ((ord u n f).drop k)).lv, (storeLv al ks true lv had data.data.toList M ((ord u n f).drop k)).mem, (storeLv al ks true lv had data.data.toList M ((ord u n f).drop k)).free⟩
      rw [HR.out])⟩
    case round =>
      obtain ⟨r, rt, kr, bt, Mr, xr, Pr, lvs, hrK, rfl, rfl, rfl, HF, HCu, HTB, HKr, HKK, HPr, HQ⟩ := hrel
      by_cases hlt : r < K
      · have hri : (r : Int) < (K : Int) := by omega
        have HLt := Lib.hid hlt
        have hrk : r < ks.length := by rw [HK.out]; exact hlt
        have hcut := HCu.out hrk
        have hstp := (HStep.out r hrk).2
        have CLay := tlay_any (HKK.out.keep HSL.out (by unfold VK; decide) HPs.out) (fun e => by
          rcases HPr.out _ e with e | e
          · exact HPs.out e
          · have := HsL.out; omega) (HOL.out.kk HTBL.out.pool HKK.out) HTB.out (row := r) (by omega) (HOr.out r hlt) HF.out.2.2
        obtain ⟨r1, hr1⟩ : ∃ r1, storeRow (if decide (r = 0) || al then (lv.drop r).headD [] else []) (hadOf lv had r) bt (cuts bt.length) 0 Mr ((ord u n f).drop kr) = r1 := ⟨_, rfl⟩
        rw [hr1] at CLay
        have hdrop : ks.drop r = cuts bt.length :: ks.drop (r + 1) := by rw [List.drop_eq_getElem_cons hrk, hcut]
        have hst := lv_step al (cuts bt.length) (ks.drop (r + 1)) (decide (r = 0)) (lv.drop r) (hadOf lv had r) bt Mr ((ord u n f).drop kr) hr1
        rw [← hdrop, List.tail_drop, show ptrs ((lv.drop r).headD []) = hadOf lv had (r + 1) by rw [List.headD_eq_head?_getD, List.head?_drop, hadOf, List.getD_eq_getElem?_getD]] at hst
        have HSt := Lib.hid hst
        have HLen := Lib.hid (show r1.ok = true → r1.now.length = cuts bt.length from fun e => by rw [← hr1] at e ⊢; exact row_len _ _ _ _ e)
        have HIn := Lib.hid (show ∀ y ∈ r1.now, y < 4294967296 from fun y hy => by
          rw [← hr1] at hy
          have hn5 := HH.out.pool.k_le.2.2
          rcases row_in _ _ _ _ _ hy with h1 | h1
          · have h2 : y ∈ lv.flatten := by
              split at h1
              · have h3 := headD_mem h1
                rw [List.mem_flatten] at h3 ⊢
                obtain ⟨z, hz, hz2⟩ := h3
                exact ⟨z, List.mem_of_mem_drop hz, hz2⟩
              · simp at h1
            have := (HRng.out y h2).2.1
            omega
          · have := (mem_frees.1 (mem_ord.1 (List.mem_of_mem_drop h1))).1
            omega)
        have HPos := Lib.hid (show 1 ≤ cuts bt.length by rw [← hcut]; exact hstp)
        have HNx := Lib.hid (show ∀ hr : r + 1 < ks.length, ks[r + 1] = cuts (4 * cuts bt.length) from fun hr => by
          have := (HStep.out (r + 1) hr).1
          rw [if_neg (by omega), show r + 1 - 1 = r by omega, getD_at ks r 0 hrk, hcut] at this
          exact this)
        clear hr1 hst hdrop hcut hstp hrk
        go_wp2_with fail
        refine CLay.mono ?_
        rintro e w5 ⟨v, k', x', P', hTB5, hfr5, hk5, hKK5, hP5, hE⟩
        have HTB5 := Lib.hid hTB5
        have HFr5 := Lib.hid hfr5
        have HK5 := Lib.hid (Nat.le_trans HKr.out hk5)
        have HKK5 := Lib.hid (HKK.out.trans hKK5 HPr.out)
        have HP5 := Lib.hid (show ∀ j, P' j → P j ∨ wL.heap.size ≤ j from fun j hj => by
          rcases hP5 j hj with e | e
          · exact HPr.out j e
          · exact .inr (Nat.le_trans HKK.out.size e))
        have hq5 := HKK5.out.keep HQL.out (by unfold VK; decide) HQs.out
        have k0 : w5.cell? ⟨w.heap.size + 1, 0, none⟩ = some (.int .i64 0) := by simp [World.cell?, hq5]
        have k1 : w5.cell? ⟨w.heap.size + 1, 1, none⟩ = some (.int .i64 0) := by simp [World.cell?, hq5]
        have z0 : w5.frozen? ⟨w.heap.size + 1, 0, none⟩ = false := by simp [World.frozen?, hq5]
        have z1 : w5.frozen? ⟨w.heap.size + 1, 1, none⟩ = false := by simp [World.frozen?, hq5]
        clear hTB5 hfr5 hk5 hKK5 hP5 CLay hq5
        rcases hE with ⟨hok, rfl, hrow, hsep⟩ | ⟨hok, rfl, rfl⟩
        · have HOk := Lib.hid hok
          have hlen := HLen.out hok
          have hpos := HPos.out
          obtain ⟨g', capv, rfl, _, hg, _, _, hcs⟩ := row_cells' hrow (fun e => by
            rcases hrow.2 with ⟨_, h0⟩ | ⟨_, _, _, h1, _⟩
            · omega
            · rw [e] at h1; cases h1)
          have hn0 : 0 < r1.now.length := by omega
          have cg := hcs 0 (.int .i64 (r1.now[0] : Nat)) (by simp [ints, hn0])
          have HN0 := Lib.hid (show r1.now[0] = rootOf (lvs ++ [r1.now]) by
            rw [rootOf_snoc]
            exact (getD_at _ 0 0 hn0).symm)
          have h69 : r1.now.length ≤ 69 := by
            have := HF.out.2.2
            rw [hlen]
            unfold cuts
            omega
          have CP := fun W' (hW : Below w5.heap.size w5 W') => pointersTo_any (owns_below hrow hW) (fun e => by rw [e] at hn0; simp at hn0) (by omega) HIn.out
          obtain ⟨n0, hn0'⟩ : ∃ n0, r1.now[0] = n0 := ⟨_, rfl⟩
          rw [hn0'] at cg HN0
          obtain ⟨N, hN⟩ : ∃ N, r1.now.length = N := ⟨_, rfl⟩
          have HNl := Lib.hid hN
          have HHl := Lib.hid hlen
          rw [hN] at CP h69
          rw [hN]
          have hNi : (0 : Int) < (N : Int) := by omega
          have hNn : 0 < N := by omega
          have HG := Lib.hid hg
          have HQ5 := Lib.hid (show R = ⟨(storeLv al (ks.drop (r + 1)) (decide (r + 1 = 0)) (lv.drop (r + 1)) (hadOf lv had (r + 1)) (ptrs r1.now) r1.mem ((ord u n f).drop k')).ok, (lvs ++ [r1.now]) ++ (storeLv al (ks.drop (r + 1)) (decide (r + 1 = 0)) (lv.drop (r + 1)) (hadOf lv had (r + 1)) (ptrs r1.now) r1.mem ((ord u n f).drop k')).lv, (storeLv al (ks.drop (r + 1)) (decide (r + 1 = 0)) (lv.drop (r + 1)) (hadOf lv had (r + 1)) (ptrs r1.now) r1.mem ((ord u n f).drop k')).mem, (storeLv al (ks.drop (r + 1)) (decide (r + 1 = 0)) (lv.drop (r + 1)) (hadOf lv had (r + 1)) (ptrs r1.now) r1.mem ((ord u n f).drop k')).free⟩ by
            have hq := HQ.out
            rw [HSt.out, if_pos hok, HFr5.out] at hq
            rw [hq, show decide (r + 1 = 0) = false by simp, List.append_assoc]
            rfl)
          clear hok hrow hsep hcs hlen hpos hn0 hn0' hN HQ HSt hg
          go_wp2
          go_region_held3 (fun w' => w'.cell? ⟨g', 0, none⟩ = some (.int .i64 (n0 : Nat))) (first | exact cg | exact cg2)
            (first | (go_at_call 73; refine (CP _ ((Below.refl _ _).drew)).mono ?_; rintro e w6 ⟨rfl, hB6⟩; have HB6 := Lib.hid (show Below w5.heap.size w5 w6 from ((Below.refl _ w5).drew).trans hB6); have cg2 : w6.cell? ⟨g', 0, none⟩ = some (.int .i64 (n0 : Nat)) := (HB6.out.cell (p := ⟨g', 0, none⟩) HG.out).trans cg; clear hB6))
          all_goals (
            go_wp2
            go_roundw
            case rel => exact ⟨r + 1, n0, k', ptrs r1.now, r1.mem, x', P', lvs ++ [r1.now], by have := HLt.out; omega, by go_num, rfl, rfl, Lib.hid ⟨HN0.out, by rw [List.length_append, HF.out.2.1]; rfl, by rw [length_ptrs, HNl.out]; omega⟩, Lib.hid (fun hr => by rw [length_ptrs, HHl.out]; exact HNx.out hr), Lib.hid (HTB5.out.later HB6.out), HK5, Lib.hid (HKK5.out.trans (KK.of_below HB6.out : KK P _ _) (fun i hi => .inl hi)), HP5, HQ5⟩
            case measure => have := HLt.out; exact (show ∀ r : Nat, r < K → K - ((r : Int) + 1).toNat < K - (r : Int).toNat from fun r hr => by omega) r HLt.out)
        · have HQ5 := Lib.hid (show R = ⟨false, lvs, r1.mem, (ord u n f).drop k'⟩ by
            have hq := HQ.out
            rw [HSt.out, if_neg (by rw [hok]; simp), HFr5.out] at hq
            rw [hq, List.append_nil])
          clear hok HQ HSt
          go_wp2
          have hEnd := HEnd.out k' r1.mem x' P' w5 (.int .i64 0) (.int .i64 0) HTB5.out HKK5.out HP5.out
          refine bodyPost_ret ?_ rfl ⟨k', x', P', by rw [HQ5.out]; exact hEnd.1, by rw [HQ5.out], HK5.out, hEnd.2.1, hEnd.2.2, .inr ⟨by rw [HQ5.out], rfl⟩⟩
          rw [results_cell2 rfl]
          go_simp
      · obtain rfl : r = K := by omega
        have hri : ¬ (r : Int) < (r : Int) := by omega
        have hqr := HKK.out.keep HQL.out (by unfold VK; decide) HQs.out
        have k0 : wr.cell? ⟨w.heap.size + 1, 0, none⟩ = some (.int .i64 0) := by simp [World.cell?, hqr]
        have k1 : wr.cell? ⟨w.heap.size + 1, 1, none⟩ = some (.int .i64 0) := by simp [World.cell?, hqr]
        have z0 : wr.frozen? ⟨w.heap.size + 1, 0, none⟩ = false := by simp [World.frozen?, hqr]
        have z1 : wr.frozen? ⟨w.heap.size + 1, 1, none⟩ = false := by simp [World.frozen?, hqr]
        have HQ5 := Lib.hid (show R = ⟨true, lvs, Mr, (ord u n f).drop kr⟩ by
          have hq := HQ.out
          rw [List.drop_eq_nil_of_le (by rw [HK.out]; exact Nat.le_refl _), storeLv] at hq
          rw [hq, List.append_nil])
        have HRt := Lib.hid (show (rt : Int) = (rootOf R.lv : Nat) by rw [HQ5.out]; rw [HF.out.1])
        clear hqr HQ
        go_wp2
        have hEnd := HEnd.out kr Mr xr Pr wr (.int .i64 (rt : Nat)) (.int .i64 (data.size : Nat)) HTB.out HKK.out HPr.out
        refine bodyPost_ret ?_ rfl ⟨kr, xr, Pr, by rw [HQ5.out]; exact hEnd.1, by rw [HQ5.out], HKr.out, hEnd.2.1, hEnd.2.2, .inl ⟨by rw [HQ5.out], rfl⟩⟩
        rw [results_cell2 rfl]
        go_simp
        rw [HRt.out]
end
end Go.Proofs.YtmloljjllmmkoaaGreat

namespace Go.Proofs.YtmloljjllmmkoaaGreat
open Go.ChangeShapes Go.WideShapes Go.ChangeAt Go.RowKit Go.Shelf Go Go.Maps SM PL AL TR

/-- the two volumes that were just laid -/
structure TLaid (w : World) (l b g m c r q d : Nat) (n : Nat) (w' : World) : Prop where
  vw : VW w l b g m c (vformX (fresh (blank (4 * n))) none0) w'
  ref : ∃ v0 v1 v2 kp, RefAt r w.heap.size (vformD (fresh (blank (4 * n))) none0) [] v0 v1 v2 kp w'
  obj : w'.heap[q]? = some (RVO r none0 1 d false)
  kept : w'.heap[d]? = some (RKO (.slice none 0 0))
  low : w.heap.size ≤ q ∧ w.heap.size ≤ d
  below : Below w.heap.size w w'
set_option maxRecDepth 100000 in
set_option maxHeartbeats 4000000 in
theorem laid_tree (n : Nat) (h1 : 8 ≤ n) (h2 : n ≤ 300) (w : World) :
    Calls Tryz.prog 4 #[.int .i64 n] w fun e w' => ∃ l b g m c r q d, e = .returned (.tuple #[.pointer (some ⟨l, 0, none⟩), .pointer (some ⟨q, 0, none⟩)]) ∧ TLaid w l b g m c r q d n w' := by
  obtain ⟨P, Q, ⟨a1, a2, a3⟩, ⟨b1, b2, b3⟩, h5, h6⟩ := clamp (n : Int) 8 300 (by omega)
  have HQn := Lib.hid (show Q = (n : Int) by omega)
  have C1 := fun w => new_yes (4 * n) (by omega) (by omega) w
  have C2 := fun w => rnew_yes (4 * n) (by omega) (by omega) w
  have hq4 : ((4 * n : Nat) : Int) = 4 * Q := by omega
  rw [hq4] at C1 C2
  have C3 := fun b g m w (h : DiskAt b g m (fresh (blank (4 * n))) w) => vformat_any h (by show 0 < 900000000; omega) none0 (by decide)
  have hok := blank_ok (n := 4 * n) (by omega) (by omega)
  have C4 := fun r zs base v0 v1 v2 kp w (h : RefAt r base (fresh (blank (4 * n))) zs v0 v1 v2 kp w) => rvformat_any h hok (by show 0 < 900000000; omega) none0 (by decide)
  have hE : vformE (fresh (blank (4 * n))) none0 = 0 := (format_blank (n := 4 * n) (by omega) (by omega) (t := none0) (by decide)).1
  obtain ⟨D, hD⟩ : ∃ D, vformD (fresh (blank (4 * n))) none0 = D := ⟨_, rfl⟩
  obtain ⟨X, hX⟩ : ∃ X, vformX (fresh (blank (4 * n))) none0 = X := ⟨_, rfl⟩
  rw [hE, hD, hX] at C3
  rw [hE, hD] at C4
  have HD := Lib.hid hD
  have HX := Lib.hid hX
  clear hE hD hX hok hq4
  have RN := fun (w w' : World) (r : Nat) (h : RNew w r (4 * n) w') => ref_new h
  generalize hs0 : fresh (blank (4 * n)) = s0 at C1 C3 C4 RN
  have HS0 := Lib.hid hs0
  clear hs0
  unfold none0 at C3 C4
  go_enter Tryz.func4, Tryz.ntmps4
  go_wp2_with fail
  refine (C1 _).mono ?_
  rintro e w1 ⟨b, g, m, rfl, h1, ho, hB1⟩
  have H1 := Lib.hid h1
  have HO := Lib.hid (show Over w.heap.size b g m from ho)
  have HB1 := Lib.hid hB1
  clear h1 ho hB1 C1
  go_wp2_with fail
  refine (C2 _).mono ?_
  rintro e w2 ⟨r, rfl, hr⟩
  obtain ⟨v0, hr2, hlr, hB2⟩ := RN _ _ _ hr
  have HR2 := Lib.hid hr2
  have H2 := Lib.hid (H1.out.below hB2)
  have HB2 := Lib.hid (HB1.out.trans (hB2.mono HB1.out.size))
  have HLr := Lib.hid (Nat.le_trans HB1.out.size hlr)
  have HZ1 := Lib.hid HB1.out.size
  clear hr hr2 hlr hB2 C2
  go_wp2_with fail
  refine (C3 _ _ _ _ H2.out).mono ?_
  rintro e w3 ⟨p, rfl, hl3, h3, s3⟩
  have hpe : ∃ l c F, p = some ⟨l, 0, none⟩ ∧ w2.heap.size ≤ l ∧ VolAt w2.heap.size l b g m c F X w3 := by
    rcases hl3 with ⟨e, l, c, F, e1, e2, e3⟩ | ⟨e, e1⟩
    · exact ⟨l, c, F, e1, e2, e3⟩
    · exact absurd rfl e
  obtain ⟨l, c, F, rfl, hl, hv⟩ := hpe
  have HL3 := Lib.hid (And.intro hl hv)
  have H3 := Lib.hid h3
  have HR3 := Lib.hid (HR2.out.disk H2.out s3)
  have HB3 := Lib.hid (step_below HB2.out s3 HO.out HB2.out.size)
  clear hl3 h3 s3 C3 hl hv
  go_wp2_with fail
  refine (C4 _ _ _ _ _ _ _ _ HR3.out).mono ?_
  rintro e w4 ⟨p2, rfl, hl4, hr4, s4⟩
  have hpe2 : ∃ q d, p2 = some ⟨q, 0, none⟩ ∧ (w4.heap[q]? = some (RVO r none0 1 d false) ∧ w4.heap[d]? = some (RKO (.slice none 0 0))) ∧ w3.heap.size ≤ q ∧ w3.heap.size ≤ d := by
    rcases hl4 with ⟨_, q, k, f1, f2⟩ | ⟨f, _⟩
    · exact ⟨q, k, f1, ⟨f2.obj, f2.kept⟩, f2.low⟩
    · exact absurd rfl f
  obtain ⟨q, d, rfl, hq1, hq2⟩ := hpe2
  have HL4 := Lib.hid (And.intro hq1 hq2)
  have HR4 := Lib.hid hr4
  have S4 := Lib.hid s4
  have H4 := Lib.hid (H3.out.stay s4 (fun i hi e => by
    rcases e with rfl | e
    · exact H3.out.not_cells HR3.out.obj (by decide) (by decide) hi
    · obtain ⟨C, hC⟩ := owns_block HR3.out.st e
      exact H3.out.not_cells hC (by decide) (by decide) hi))
  have HB4 := Lib.hid (HB3.out.trans (s4.below (B := w.heap.size) (fun k e => by
    rcases e with rfl | e
    · exact HLr.out
    · exact Nat.le_trans HZ1.out (HR3.out.st.lt k e).1) HB3.out.size))
  clear hl4 hr4 s4 C4 hq1 hq2
  have HFin := Lib.hid (show TLaid w l b g m c r q d n w4 from by
    refine ⟨?_, ?_, HL4.out.1.1, HL4.out.1.2, ⟨Nat.le_trans HB3.out.size HL4.out.2.1, Nat.le_trans HB3.out.size HL4.out.2.2⟩, HB4.out⟩
    · rw [HX.out]
      obtain ⟨e2, e3⟩ := HL3.out
      refine ⟨⟨F, (e3.stay S4.out (fun i hi hf => ?_)).lower HB2.out.size⟩, Nat.le_trans HB2.out.size e2, HO.out, HB4.out⟩
      have hcell : ∃ C e' f', w3.heap[i]? = some (.cells C e' f') ∧ (e' = 108 ∨ e' = 9) := by
        rcases hf with rfl | hf
        · exact ⟨_, _, _, HR3.out.obj, .inl rfl⟩
        · obtain ⟨C, hC⟩ := owns_block HR3.out.st hf
          exact ⟨_, _, _, hC, .inr rfl⟩
      obtain ⟨C, e', f', hC, he'⟩ := hcell
      rcases vfoot_kinds e3 hi hC with k | k | k | k | k <;> rcases he' with j | j <;> rw [k] at j <;> exact absurd j (by decide)
    · rw [HD.out]
      obtain ⟨v1', kp', h⟩ := HR4.out
      exact ⟨_, _, _, _, h.lower HZ1.out⟩)
  go_wp2
  go_ret2
  exact ⟨l, b, g, m, c, r, q, d, rfl, HFin.out⟩
/-- a calm volume with a new pool -/
theorem TB.start {w w1 w2 : World} {l b g m c r q d n f pl : Nat} {u : List UInt8} {P : Nat → Prop} (h : TLaid w l b g m c r q d n w1) (h1 : 8 ≤ n) (h2 : n ≤ 300) (hB : Below w1.heap.size w1 w2) (hp : PoolAt w1.heap.size P pl u n f 0 w2) (M : Mem) :
    TB w l b g m c pl u n f 0 M (fun _ => False) (vformX (fresh (blank (4 * n))) none0) P w2 :=
  ⟨h.vw.later hB, (calm_new h1 (by omega) M).2.weaken (fun k hk => by simp at hk), hp.lower h.below.size, by
    have := (len_vformD (fresh (blank (4 * n))) none0).2
    have e : (fresh (blank (4 * n))).made = 0 := rfl
    show (vformD (fresh (blank (4 * n))) none0).made ≤ _
    omega, fun _ h => h.elim⟩
end Go.Proofs.YtmloljjllmmkoaaGreat

namespace Go.Proofs.YtmloljjllmmkoaaGreat
open Go.ChangeShapes Go.WideShapes Go.ChangeAt Go.RowKit Go.Shelf Go Go.Maps SM PL AL TR

/-- a tree of bytes on a volume from whose pool k blocks were taken -/
structure TT (u : List UInt8) (n f k : Nat) (M : Mem) (W : Nat → Prop) (lv : List (List Nat)) (b : List UInt8) : Prop where
  tree : Tree M lv b
  len : b.length ≤ 16384
  rng : ∀ y ∈ lv.flatten, 1 ≤ y ∧ y < n ∧ (y ∈ (ord u n f).take k ∧ ¬ W y)
  nodup : lv.flatten.Nodup
  far : ∀ y ∈ lv.flatten, y ∉ (ord u n f).drop k
  skip : ∀ j, W j → j ∈ (ord u n f).take k
theorem TT.nil (u : List UInt8) (n f k : Nat) (M : Mem) (W : Nat → Prop) (hs : ∀ j, W j → j ∈ (ord u n f).take k) : TT u n f k M W [] [] :=
  ⟨rfl, by simp, fun y hy => by simp at hy, by simp, fun y hy => by simp at hy, hs⟩
section
variable {u : List UInt8} {n f k t : Nat} {M : Mem} {W : Nat → Prop} {lv : List (List Nat)} {b bt : List UInt8} {R : LvR}
theorem ord_cut (u : List UInt8) (n f a : Nat) {y : Nat} (h : y ∈ (ord u n f).take a) : y ∉ (ord u n f).drop a := fun h2 => by
  have hn := nodup_ord u n f
  rw [← List.take_append_drop a (ord u n f), List.nodup_append] at hn
  exact hn.2.2 y h y h2 rfl
theorem take_part {y : Nat} (h : y ∈ ((ord u n f).drop k).take t) : y ∈ (ord u n f).take (k + t) := by rw [List.take_add, List.mem_append]; exact .inr h
/-- what was stored -/
theorem TT.store (h : TT u n f k M W lv b) (hb : bt.length ≤ 16384) (o : LvOk lv.flatten lv bt (rowsL bt.length) M ((ord u n f).drop k) R t) (hok : R.ok = true) : TT u n f (k + t) R.mem W R.lv bt := by
  have hin : ∀ y ∈ R.lv.flatten, (1 ≤ y ∧ y < n ∧ (y ∈ (ord u n f).take (k + t) ∧ ¬ W y)) ∧ y ∉ (ord u n f).drop (k + t) := fun y hy => by
    rcases o.mem hok y hy with m | m
    · obtain ⟨h1, h2, h3⟩ := h.rng y m
      refine ⟨⟨h1, h2, ?_⟩, fun e => h.far y m (by rw [← List.drop_drop] at e; exact List.mem_of_mem_drop e)⟩
      exact ⟨by rw [List.take_add, List.mem_append]; exact .inl h3.1, h3.2⟩
    · have m2 := take_part m
      have := mem_frees.1 (mem_ord.1 (List.mem_of_mem_take m2))
      exact ⟨⟨this.2.1, this.1, m2, fun hw => ord_cut _ _ _ _ (h.skip y hw) (List.mem_of_mem_take m)⟩, ord_cut _ _ _ _ m2⟩
  exact ⟨o.isTree hok, hb, fun y hy => (hin y hy).1, o.nodup hok, fun y hy => (hin y hy).2, fun j hj => by rw [List.take_add, List.mem_append]; exact .inl (h.skip j hj)⟩
/-- what was there -/
theorem TT.keep {O : List Nat} {olds : List (List Nat)} {ks : List Nat} (h : TT u n f k M W lv b) (o : LvOk O olds bt ks M ((ord u n f).drop k) R t) : TT u n f (k + t) R.mem W lv b :=
  ⟨h.tree.keep (fun y hy => o.keep y (fun e => h.far y hy (List.mem_of_mem_take e))), h.len, fun y hy => by
    obtain ⟨h1, h2, h3⟩ := h.rng y hy
    refine ⟨h1, h2, ?_⟩
    exact ⟨by rw [List.take_add, List.mem_append]; exact .inl h3.1, h3.2⟩, h.nodup, fun y hy e => h.far y hy (by rw [← List.drop_drop] at e; exact List.mem_of_mem_drop e), fun j hj => by rw [List.take_add, List.mem_append]; exact .inl (h.skip j hj)⟩
end
section
variable {w0 w : World} {l b g m c pl n f k : Nat} {u : List UInt8} {M : Mem} {W P : Nat → Prop} {x : VS} {lv : List (List Nat)} {bt : List UInt8}
theorem TB.vkeep {x' : VS} {w' : World} (h : TB w0 l b g m c pl u n f k M W x P w) (hv : VW w0 l b g m c x' w') (hc : CalmV x' n M (fun j => j ∈ (ord u n f).take k ∧ ¬ W j)) (hd : x'.disk = x.disk) (hk : VKeep w w') : TB w0 l b g m c pl u n f k M W x' P w' :=
  ⟨hv, hc, h.pool.vkeep hk, by rw [hd]; exact h.made, h.skip⟩
theorem TB.root64 (h : TB w0 l b g m c pl u n f k M W x P w) (ht : TT u n f k M W lv bt) : I64 (rootOf lv : Nat) ∧ I64 (bt.length : Nat) := by
  have hn := h.pool.k_le
  have hl := ht.len
  refine ⟨?_, ⟨by omega, by omega⟩⟩
  by_cases hne : lv = []
  · subst hne; simp [rootOf, I64]
  · have := (ht.rng _ (root_mem ht.tree hne)).2.1
    exact ⟨by omega, by omega⟩
theorem TB.load (h : TB w0 l b g m c pl u n f k M W x P w) (ht : TT u n f k M W lv bt) :
    Calls Tryz.prog 7 #[srcV l, blobV (rootOf lv) bt.length] w fun e w' => e = .returned (.tuple #[.string (bsL bt), .int .i64 0]) ∧ ∃ x', TB w0 l b g m c pl u n f k M W x' P w' ∧ VKeep w w' := by
  obtain ⟨x1, hx1, hc1⟩ := ndBlob_tree ht.tree ht.len (by have := h.pool.k_le; omega) ht.rng true h.calm
  have hdk : x1.disk = x.disk := by have := ndBlob_disk true x (rootOf lv : Nat) (bt.length : Nat); rw [hx1] at this; exact this
  obtain ⟨r1, r2⟩ := h.root64 ht
  refine (loadT_any h.vw _ _ r1 r2).mono ?_
  rw [hx1]
  rintro e w' ⟨rfl, hv, hk⟩
  refine ⟨?_, x1, h.vkeep hv hc1 hdk hk, hk⟩
  rw [loadedT, if_pos rfl]
  show Ending.returned (.tuple #[.string (bsL (catOf (levOf 0 (visT M lv true)))), _]) = _
  rw [cat_visT ht.tree]
theorem TB.reach (h : TB w0 l b g m c pl u n f k M W x P w) (ht : TT u n f k M W lv bt) :
    Calls Tryz.prog 9 #[srcV l, blobV (rootOf lv) bt.length] w fun e w' => ∃ v, e = .returned (.tuple #[v, .int .i64 0]) ∧ w'.ownsRow w.heap.size 3 1 v (orderT lv).length (ints (orderT lv)) ∧ ∃ x', TB w0 l b g m c pl u n f k M W x' P w' ∧ VKeep w w' := by
  obtain ⟨x1, hx1, hc1⟩ := ndBlob_tree ht.tree ht.len (by have := h.pool.k_le; omega) ht.rng false h.calm
  have hdk : x1.disk = x.disk := by have := ndBlob_disk false x (rootOf lv : Nat) (bt.length : Nat); rw [hx1] at this; exact this
  obtain ⟨r1, r2⟩ := h.root64 ht
  refine (reach_tree h.vw _ _ r1 r2).mono ?_
  rw [hx1]
  rintro e w' ⟨v, rfl, hv, hr, hk⟩
  refine ⟨v, rfl, ?_, x1, h.vkeep hv hc1 hdk hk, hk⟩
  rcases hr with ⟨_, hr⟩ | ⟨e, _⟩
  · simp only [ord_visT] at hr
    rw [List.length_map] at hr
    have e : intVals ((orderT lv).map fun n : Nat => (n : Int)) = ints (orderT lv) := by unfold intVals ints; rw [List.map_map]; rfl
    rwa [e] at hr
  · exact absurd rfl e
/-- bytes are stored over a tree -/
theorem TB.store (h : TB w0 l b g m c pl u n f k M W x P w) (ht : TT u n f k M W lv bt) (data : ByteArray) (hd : data.size ≤ 16384) {R : LvR} (hR : storeLv (decide ((rowsL data.size).length = lv.length)) (rowsL data.size) true lv bt data.data.toList M ((ord u n f).drop k) = R) :
    Calls Tryz.prog 35 #[srcV l, blobV (rootOf lv) bt.length, .string data, .pointer (some ⟨pl, 0, none⟩)] w fun e w' => ∃ (t : Nat) (x' : VS) (P' : Nat → Prop), LvOk lv.flatten lv data.data.toList (rowsL data.data.toList.length) M ((ord u n f).drop k) R t ∧ TB w0 l b g m c pl u n f (k + t) R.mem W x' P' w' ∧ KK P w w' ∧ (∀ j, P' j → P j ∨ w.heap.size ≤ j) ∧
      ((R.ok = true ∧ e = .returned (.tuple #[blobV (rootOf R.lv) data.size, .int .i64 0])) ∨ (R.ok = false ∧ e = .returned (.tuple #[blobV 0 0, .int .i64 112]))) := by
  have C := store_tree h ht.tree ht.len ht.rng data hd
  rw [hR] at C
  have hnd : ((ord u n f).drop k).Nodup := (nodup_ord u n f).sublist (List.drop_sublist _ _)
  obtain ⟨t, o⟩ := store_ok (decide ((rowsL data.size).length = lv.length)) lv bt data.data.toList M ((ord u n f).drop k) (by rw [len_of]; exact hd) hnd ht.far ht.nodup ht.tree
  rw [len_of, hR] at o
  refine C.mono ?_
  rintro e w' ⟨k', x', P', h1, h2, h3, h4, h5, h6⟩
  have hk : k' = k + t := by
    have e1 := o.free
    rw [h2, List.drop_drop] at e1
    have e2 := congrArg List.length e1
    rw [List.length_drop, List.length_drop] at e2
    have e3 := h1.pool.k_le.1
    have e4 := o.le
    rw [List.length_drop] at e4
    have e5 := h.pool.k_le.1
    omega
  subst hk
  exact ⟨t, x', P', by rw [len_of]; exact o, h1, h4, h5, h6⟩
theorem TB.left (h : TB w0 l b g m c pl u n f k M W x P w) :
    Calls Tryz.prog 36 #[.pointer (some ⟨pl, 0, none⟩)] w fun e w' => e = .returned (.int .i64 ((ord u n f).length - k : Nat)) ∧ w = w' := left_any h.pool
end
/-- the law's pool -/
theorem pool_new (n : Nat) (h1 : 8 ≤ n) (h2 : n ≤ 300) (w : World) :
    Calls Tryz.prog 34 #[.string ⟨#[]⟩, .int .i64 n, .int .i64 1] w fun e w' => ∃ p, e = .returned (.tuple #[.pointer (some ⟨p, 0, none⟩), .int .i64 0]) ∧ (∃ F, PoolAt w.heap.size F p [] n 1 0 w') ∧ Below w.heap.size w w' :=
  anew_yes ⟨#[]⟩ n 1 (by decide) h1 (by omega) (by omega) (by omega) w
end Go.Proofs.YtmloljjllmmkoaaGreat

