/-
  What is synced stays, whatever is written behind it and chosen when the power goes; with none loose a crash changes nothing: for every number of sectors (cut to 1 to 40), every list of calls, of which the first two hundred write, and every set.
  Conditions: none besides the row's own.
-/
import Derived.Test.YtickjomnmifmjaaDoorDskV
import Derived.Deep.RegionHeld3
namespace Go.Proofs.YtickjomnmifmjaaDoor.syncs
open Go.ChangeShapes Go.WideShapes Go.ChangeAt Go.RowKit Go Go.Maps SM

set_option maxRecDepth 100000 in
set_option maxHeartbeats 4000000 in
theorem walk (n0 : Int) (va : Value) (l : List (Int × Int × Int × Int × ByteArray × Bool)) (keep : ByteArray) (w : World) (_r0 : IntOk n0) (hO : OpsAt w va l) (hl : OpsOk l) (hkp : keep.size ≤ 140737488351232) :
    Calls Tryd.prog 6 #[.int .i64 n0, va, .string keep] w fun r w' => r = .returned (.bool true) ∧ Below w.heap.size w w' := by
  obtain ⟨aa, capa, rfl, ha⟩ := hO
  have HA := Lib.hid ha
  have hl1 := hl.1
  have HL := Lib.hid hl.2
  obtain ⟨P, n, ⟨p1, p2, p3⟩, ⟨q1, q2, q3⟩, hn1, hn2⟩ := clampN n0
  have HN := Lib.hid (And.intro hn1 hn2)
  have hkp2 : keep.size ≤ 140737488355328 := by omega
  have N1 := fun w => new_yes n hn1 (by omega) w
  clear ha hl hn1 hn2 hkp
  go_enter Tryd.func6, Tryd.ntmps6
  go_wp2_with fail
  refine (N1 _).mono ?_
  rintro e w1 ⟨b, g, m, rfl, h1, ho, hB1⟩
  have H1 := Lib.hid h1
  have HO := Lib.hid (show Over w.heap.size b g m from ho)
  have HB1 := Lib.hid hB1
  clear h1 ho hB1 N1 p1 p2 p3 q1 q2 q3
  go_wp2_with fail
  go_loopw [10] (fun i wr => ∃ (k : Nat) (s : DS), k ≤ l.length ∧ k ≤ 200 ∧ i = .int .i64 k ∧ Calm n k s ∧ DiskAt b g m s wr ∧ Below w.heap.size w wr) (fun i _ => 200 - (intOf i).toNat)
  case atStart => exact ⟨0, _, Nat.zero_le _, Nat.zero_le _, rfl, calm_fresh HN.out.1 (by have := HN.out.2; omega), H1.out, HB1.out⟩
  case round =>
    obtain ⟨k, s, hk1, hk2, rfl, hc, hd, hB⟩ := hrel
    have HC := Lib.hid hc
    have HD := Lib.hid hd
    have HB := Lib.hid hB
    clear hc hd hB H1 HB1
    by_cases hlt : k < l.length ∧ k < 200
    · obtain ⟨t1, t2⟩ := hlt
      obtain ⟨ba, off, rfl, hba, hcells⟩ := HA.out (by intro e; rw [e] at t1; simp at t1)
      obtain ⟨-, c1, c2, -⟩ := hcells k t1
      obtain ⟨-, z1, z2, -⟩ := HL.out _ (List.getElem_mem t1)
      generalize l[k].2.1 = j at c1 z1
      generalize l[k].2.2.1 = y at c2 z2
      have HK := Lib.hid (And.intro t1 t2)
      have x1 : ∀ W, Below w.heap.size w W → W.cell? ⟨ba, off + k * 6 + 1, none⟩ = some (.int .i64 j) := fun W h => (h.cell (p := ⟨ba, off + k * 6 + 1, none⟩) hba).trans c1
      have x2 : ∀ W, Below w.heap.size w W → W.cell? ⟨ba, off + k * 6 + 2, none⟩ = some (.int .u8 y) := fun W h => (h.cell (p := ⟨ba, off + k * 6 + 2, none⟩) hba).trans c2
      have HBd := Lib.hid (show Below w.heap.size w wr.drew from HB.out.drew)
      have HDd := Lib.hid (show DiskAt b g m s wr.drew from HD.out.below (Below.refl _ _).drew)
      have X1 := x1 _ HBd.out
      have X2 := x2 _ HBd.out
      have e1 : (k : Int) < (l.length : Int) := by omega
      have e2 : (k : Int) < 200 := by omega
      clear c1 c2 hcells t1 t2 hk1 hk2
      go_wp2_with fail
      go_region_held3 (fun w' => w'.cell? ⟨ba, off + k * 6 + 1, none⟩ = some (.int .i64 j) ∧ w'.cell? ⟨ba, off + k * 6 + 2, none⟩ = some (.int .u8 y))
        (first | exact ⟨X1, X2⟩ | exact ⟨Y1, Y2⟩ | exact ⟨Z1, Z2⟩)
        (first
          | (go_at_call 21; refine (sector_int y z2 0 _).mono ?_; rintro e w2 ⟨rfl, hB2⟩; have HD2 := Lib.hid (HDd.out.below hB2); have HB2 := Lib.hid (HBd.out.trans (hB2.mono HBd.out.size)); have Y1 := x1 _ HB2.out; have Y2 := x2 _ HB2.out; clear hB2)
          | (go_at_call 20; refine (write_any HD2.out (by have := HC.out.made; have := HK.out; omega) j z1 _).mono ?_; rintro e w3 ⟨rfl, hd3, hs3⟩; have HD3 := Lib.hid hd3; have HB3 := Lib.hid (step_below HB2.out hs3 HO.out HB2.out.size); have Z1 := x1 _ HB3.out; have Z2 := x2 _ HB3.out; clear hd3 hs3))
      all_goals (
        clear X1 X2 Y1 Y2 Z1 Z2 x1 x2
        go_wp2_with fail
        go_roundw
        case rel => exact ⟨k + 1, _, by have := HK.out; omega, by have := HK.out; omega, by go_num, HC.out.write j _, HD3.out, HB3.out⟩
        case measure => have := HK.out; simp [intOf]; omega)
    · have hcase : ¬ ((k : Int) < (l.length : Int)) ∨ ((k : Int) < (l.length : Int) ∧ ¬ (k : Int) < 200) := by omega
      have hst : s.sync.stay.length = n := HC.out.sync.len
      obtain ⟨t, ht⟩ : ∃ t, (s.sync.crash keep).revive = t := ⟨_, rfl⟩
      obtain ⟨I, hI⟩ : ∃ I, img s.sync.stay = I := ⟨_, rfl⟩
      have hIs : (I.size : Int) = 64 * (n : Int) := by rw [← hI, size_img HC.out.sync.ok.sz, hst]; omega
      have C1 := sync_any HD.out (by have := HC.out.made; omega)
      rw [HC.out.syncE_is] at C1
      have C2 : ∀ W, DiskAt b g m s.sync W → Calls Tryd.prog 15 #[.pointer (some ⟨b, 0, none⟩)] W fun e w' => e = .returned (.int .i64 0) ∧ W = w' := fun W h => by
        have := loose_any h
        rw [HC.out.sync_loose] at this
        exact this
      have C3 : ∀ W, DiskAt b g m s.sync W → Calls Tryd.prog 34 #[.pointer (some ⟨b, 0, none⟩)] W fun e w' => e = .returned (.string I) ∧ W = w' := fun W h => by
        have := image_any h
        rw [hI] at this
        exact this
      have C4 : ∀ W, DiskAt b g m s.sync W → Calls Tryd.prog 29 #[.pointer (some ⟨b, 0, none⟩), .string keep] W fun e w' => e = .returned (.int .i64 0) ∧ DiskAt b g m (s.sync.crash keep) w' ∧ Stir (Foot b g m) W w' := fun W h => by
        have := crash_any h (by have := HC.out.sync.made; omega) hkp2
        rw [HC.out.sync.crashE_is] at this
        exact this
      have C5 : ∀ W, DiskAt b g m (s.sync.crash keep) W → Calls Tryd.prog 34 #[.pointer (some ⟨b, 0, none⟩)] W fun e w' => e = .returned (.string I) ∧ W = w' := fun W h => by
        have := image_any h
        rw [HC.out.sync.crash_stay HC.out.sync_loose, hI] at this
        exact this
      have C6 : ∀ W, DiskAt b g m (s.sync.crash keep) W → Calls Tryd.prog 31 #[.pointer (some ⟨b, 0, none⟩)] W fun e w' => e = .returned (.tuple #[]) ∧ DiskAt b g m t w' ∧ Stir (Foot b g m) W w' := fun W h => by
        have := revive_any h
        rw [ht] at this
        exact this
      have C7 : ∀ (j : Nat) W, j < n → DiskAt b g m t W → Calls Tryd.prog 18 #[.pointer (some ⟨b, 0, none⟩), .int .i64 j] W fun e w' => e = .returned (.tuple #[.string (I.extract (64 * j) (64 * j + 64)), .int .i64 0]) ∧ Below W.heap.size W w' := fun j W hj h => by
        have hb := HC.out.sync.back HC.out.sync_loose keep
        have := read_any h (j : Int) ⟨by omega, by have := HN.out.2; omega⟩
        rw [← ht, hb.readE_is (by omega) (by omega), hb.readS_is (by omega) (by omega), HC.out.sync.back_look HC.out.sync_loose keep (by omega), ← img_part HC.out.sync.ok.sz (by omega), hI] at this
        exact this
      have HI := Lib.hid hIs
      have hn40 := HN.out.2
      clear hlt hst hI hIs ht hk1 hk2
      rcases hcase with hge | ⟨hlt1, hge⟩
      all_goals (
        go_wp2_with fail
        refine C1.mono ?_
        rintro e w2 ⟨rfl, hd2, hs2⟩
        have HD2 := Lib.hid hd2
        have HB2 := Lib.hid (step_below HB.out hs2 HO.out HB.out.size)
        clear hd2 hs2
        go_wp2_with fail
        refine (C2 _ HD2.out).mono ?_
        rintro e w' ⟨rfl, rfl⟩
        go_wp2_with fail
        refine (C3 _ HD2.out).mono ?_
        rintro e w' ⟨rfl, rfl⟩
        have hIs := HI.out
        go_wp2_with fail
        refine (C4 _ HD2.out).mono ?_
        rintro e w3 ⟨rfl, hd3, hs3⟩
        have HD3 := Lib.hid hd3
        have HB3 := Lib.hid (step_below HB2.out hs3 HO.out HB2.out.size)
        clear hd3 hs3 hIs
        go_wp2_with fail
        refine (C5 _ HD3.out).mono ?_
        rintro e w' ⟨rfl, rfl⟩
        go_wp2_with fail
        refine (C6 _ HD3.out).mono ?_
        rintro e w4 ⟨rfl, hd4, hs4⟩
        have HD4 := Lib.hid hd4
        have HB4 := Lib.hid (step_below HB3.out hs4 HO.out HB3.out.size)
        clear hd4 hs4 C1 C2 C3 C4 C5 C6 hge
        go_wp2_with fail
        go_loopw [12] (fun i wr => ∃ k : Nat, k ≤ n ∧ i = .int .i64 k ∧ DiskAt b g m t wr ∧ Below w.heap.size w wr) (fun i _ => n - (intOf i).toNat)
        case atStart => exact ⟨0, Nat.zero_le _, rfl, HD4.out, HB4.out⟩
        case round =>
          obtain ⟨j, hj, rfl, hd, hB⟩ := hrel
          have HD := Lib.hid hd
          have HB := Lib.hid hB
          clear hd hB HD4 HB4
          by_cases hjn : j < n
          · have C := C7 j wr hjn HD.out
            have hsl := fun W => part_run W I j (by have := HI.out; omega)
            generalize I.extract (64 * j) (64 * j + 64) = X at C hsl
            go_wp2_with fail
            refine C.mono ?_
            rintro e w5 ⟨rfl, hB5⟩
            have HD5 := Lib.hid (HD.out.below hB5)
            have HB5 := Lib.hid (HB.out.trans (hB5.mono HB.out.size))
            clear hB5 C
            go_wp2
            go_roundw
            case rel => exact ⟨j + 1, by omega, by go_num, HD5.out, HB5.out⟩
            case measure => simp [intOf]; omega
          · go_wp2_with fail
            refine (fixed_any _).mono ?_
            rintro e w5 ⟨rfl, hB5⟩
            have HB5 := Lib.hid (HB.out.trans (hB5.mono HB.out.size))
            go_wp2
            go_ret
            exact ⟨rfl, HB5.out⟩)
set_option maxRecDepth 100000 in
/-- WHAT THE WALK GIVES, for every argument that can be read. -/
theorem contract (H : Type) (enc : TypeId × Value → H) (W : World) (base : Nat) (args : Array Value) (ds gs : List (DataW H)) (before : List MemPlace)
    (hval : ∀ (j : Nat) t v, Tryd.f6.params[j]? = some t → args[j]? = some v → Value.okWide Tryd.prog W .any base t v)
    (hW : DataW.Whole enc Tryd.prog Tryd.f6.params.toList Rows.diskSyncsSpec.vars false W args.toList ds gs before)
    (hreach : (DataW.weightsEach Tryd.prog (Tryd.f6.params.toList) ds).all (· ≤ reachBytes) = true) :
    Calls Tryd.prog 6 args W fun e W' => ∃ v, e = .returned v ∧ Rows.diskSyncsSpec.post enc Tryd.prog Tryd.f6 false true false false W args v W' := by
  have hW' := hW
  obtain ⟨p, q, hA0, hV, rfl, hfz, hnd⟩ := hW
  have hA : DataW.TrodAll enc Tryd.prog W 0 (fun _ => true) true Tryd.f6.params.toList args.toList ds p := hA0
  rw [Tryd.params6] at hA hval hreach
  obtain ⟨v0, v1, v2, d0, d1, d2, p0, p1, p2, rfl, rfl, rfl, h0, h1, h2⟩ := trodAll_three hA
  obtain ⟨rfl, rfl⟩ := trodVars_none hV
  obtain ⟨n0, rfl, rfl, rfl, wn0⟩ := open_int Tryd.underlying3 (hval 0 3 v0 rfl rfl) h0
  have r0 := int_range wn0
  obtain ⟨s2, rfl, rfl, rfl, ws2⟩ := Go.ChangeMaps.open_string Tryd.underlying9 (hval 2 9 v2 rfl rfl) h2
  have r2 := reach_size (sized_string hreach (j := 2) rfl rfl)
  have lt1 : ∀ x ∈ p1, x.block < W.heap.size := fun x hx => hW'.lt x (by simp [hx])
  obtain ⟨l1, k1, r1⟩ := ops_open (hval 1 35 v1 rfl rfl) h1 lt1 hreach (j := 1) rfl rfl
  clear hA0 hval
  simp only [List.append_nil] at hW'
  refine (walk n0 v1 l1 s2 W r0 k1 r1 r2).mono fun e W' ⟨he, hB⟩ => ?_
  subst he
  exact ⟨_, rfl, post_of_below (pa := [] ++ (p1 ++ ([]))) (pv := []) hW' (fun _ _ _ => trodAll_mk1 (shut_bool Tryd.underlying4 _)) (fun sp hsp => trodAll_mk3 (shut_int Tryd.underlying3 wn0) (WideElems.Trod_stays laidOut (by kernel_rfl) (of_decide_eq_true (by kernel_rfl)) h1 (fun x hx => hB.same (lt1 x hx)) (fun x hx => hsp x (by simp [hx]))) (Go.ChangeMaps.shut_string Tryd.underlying9 ws2)) (fun _ _ => rfl) (by simp) hB (ok_one (by kernel_rfl) rfl (okWide_bool_mk Tryd.underlying4 _))⟩

theorem reads (os : Os) {H : Type} (enc : TypeId × Value → H) : ∃ places, DataW.whole enc Tryd.prog ((laidWorld os).forCall (fun _ _ => 0) ⟨#[], #[.int .i64 0, .slice none 0 0, .string ⟨#[]⟩], []⟩).memory Tryd.f6.params.toList Rows.diskSyncsSpec.vars false (#[.int .i64 0, .slice none 0 0, .string ⟨#[]⟩] : Array Value).toList 8 = some ([.lit (.int .i64 0), .nil, .lit (.string [])], [], places) :=
  ⟨[], by kernel_rfl⟩

set_option maxRecDepth 100000 in
theorem lifted (os : Os) (started : os.Started) (H : Type) (enc : TypeId × Value → H) (F : Stop.Interp) :
    ReturnsInHanded {} Tryd.checked os 6 .any ((OpenSpec.ofChange Rows.diskSyncsSpec).preRow enc Tryd.prog Tryd.f6 Rows.diskSyncsRow.domain false Rows.diskSyncsRow.laid) (((OpenSpec.ofChange Rows.diskSyncsSpec).at F).post enc Tryd.prog Tryd.f6 false true false false) := by
  obtain ⟨places, hx⟩ := reads os enc
  refine returnsInHanded_of_row (C := Tryd.checked) (s := OpenSpec.ofChange Rows.diskSyncsSpec) own started (by kernel_rfl) Tryd.func6
    (witness_row_at (enc := enc) (C := Tryd.checked) false (laidWorld os) #[.int .i64 0, .slice none 0 0, .string ⟨#[]⟩] rfl (by kernel_rfl) (by kernel_rfl) (by kernel_rfl)
      (OpenSpec.preRow_of_cond 8 hx (by kernel_rfl) (fun k hk => by cases hk) (by kernel_rfl) (laid_met os _))) ?_
  intro W base args ds gs before hval hW _ hcond hreach hL _ _
  obtain ⟨p, q, hA0, hV, hpq, hfz, hnd⟩ := id hW
  obtain ⟨rfl, _⟩ := trodVars_none hV
  rw [List.append_nil] at hreach
  exact contract H enc W base args ds [] before hval hW hreach

theorem said : Rows.DiskSyncsSaid :=
  OpenClaim.holds_of_cond 6 Tryd.f6 rfl rfl rfl rfl rfl rfl rfl ⟨rfl, rfl, rfl, rfl, rfl⟩ rfl rfl rfl rfl rfl (by kernel_rfl) Tryd.func6 (by kernel_rfl)
    (of_decide_eq_true (by kernel_rfl)) (by unfold Func.isWrapper; first | (rw [if_pos (by decide +kernel)]; kernel_rfl) | (rw [if_neg (by decide +kernel)]; exact ⟨rfl, rfl⟩))
    (fun os started H enc _ F => by rw [OpenClaim.pre_eq_preRow]; exact lifted os started H enc F)

theorem plain (f : FuncId) (fn : Func) (hf : Tryd.pinned.checked.prog.funcNamed "stillage/stillagelaw06.DiskSyncs" = some f) (hfn : Tryd.pinned.checked.prog.funcs[f]? = some fn) :
    true = Tryd.pinned.checked.prog.looks [] ∧ ∀ (j : Nat) t, fn.params[j]? = some t → Tryd.pinned.checked.prog.wantsStandIn t = false := by
  obtain rfl : f = 6 := Option.some.inj ((show Tryd.prog.funcNamed "stillage/stillagelaw06.DiskSyncs" = some 6 by kernel_rfl).symm.trans hf) |>.symm
  obtain rfl : fn = Tryd.f6 := (Option.some.inj (Tryd.func6.symm.trans hfn)).symm
  refine ⟨by kernel_rfl, fun j t ht => ?_⟩
  rw [Tryd.params6] at ht
  have hm : t ∈ [3, 35, 9] := by simpa using Array.mem_of_getElem? ht
  have hall : ([3, 35, 9].all fun u => !Tryd.prog.wantsStandIn u) = true := by kernel_rfl
  exact (show Tryd.prog.wantsStandIn t = false by simpa using List.all_eq_true.1 hall t hm)

/-- THE CARD -/
theorem card : Rows.DiskSyncsCardSaid :=
  Claim7.holds_tied_plain_at .later [] _ _ _ _ said (fun _ h => by cases h) (by kernel_rfl) (fun _ h => by cases h) diskSyncs_row_tie rfl ⟨rfl, rfl⟩ (by kernel_rfl) rfl plain (by kernel_rfl)


end Go.Proofs.YtickjomnmifmjaaDoor.syncs
