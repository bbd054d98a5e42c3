/-
  Which bytes, and how many sectors, make a disk is as the document says: for every number of bytes (cut to 0 to 64 times 16385) and every number of sectors.
  Conditions: none besides the row's own.
-/
import Derived.Test.YtickjomnmifmjaaDoorDskX
namespace Go.Proofs.YtickjomnmifmjaaDoor.opens
open Go.ChangeShapes Go.WideShapes Go.ChangeAt Go.RowKit Go Go.Maps SM

/-- what is told of a new disk -/
def Told (p : Value) (k : Nat) (w : World) : Prop := ∃ b g cap m, p = .pointer (some ⟨b, 0, none⟩) ∧ w.heap[b]? = some (DObj g cap m ⟨#[]⟩ 0 (fresh (blank k))) ∧ LooseAt m [] w (.map []) ∧ k ≤ 16384
theorem Told.later {p : Value} {k : Nat} {w w' : World} (h : Told p k w) (hB : Below w.heap.size w w') : Told p k w' := by
  obtain ⟨b, g, cap, m, e, ho, hl, hk⟩ := h
  exact ⟨b, g, cap, m, e, keeps_of hB ho, hl.below hB, hk⟩
/-- Open's answer, and the reference's -/
theorem open_two (k : Nat) (hk : k ≤ 1048640) (w : World) :
    Calls Tryd.prog 9 #[.string (nought k)] w (fun e w' => ∃ p c, e = .returned (.tuple #[p, .int .i64 c]) ∧ ((k % 64 = 0 ∧ 1 ≤ k / 64 ∧ k / 64 ≤ 16384 ∧ c = 0 ∧ Told p (k / 64) w') ∨ (¬ (k % 64 = 0 ∧ 1 ≤ k / 64 ∧ k / 64 ≤ 16384) ∧ c = 60 ∧ p = .pointer none)) ∧ Below w.heap.size w w') := by
  by_cases h : k % 64 = 0 ∧ 1 ≤ k / 64 ∧ k / 64 ≤ 16384
  · refine (open_yes (nought k) (k / 64) (by rw [size_nought]; omega) h.2.1 h.2.2 w).mono ?_
    rintro e w' ⟨b, g, cap, m, rfl, ho, hl, hB⟩
    exact ⟨_, _, rfl, .inl ⟨h.1, h.2.1, h.2.2, rfl, b, g, cap, m, rfl, ho, hl, h.2.2⟩, hB⟩
  · refine (open_no (nought k) (by rw [size_nought]; omega) (by rw [size_nought]; omega) w).mono ?_
    rintro e w' ⟨rfl, rfl⟩
    exact ⟨_, _, rfl, .inr ⟨h, rfl, rfl⟩, Below.refl _ _⟩
theorem ropen_two (k : Nat) (hk : k ≤ 1048640) (w : World) :
    Calls Tryd.prog 10 #[.string (nought k)] w (fun e w' => ∃ p c, e = .returned (.tuple #[p, .int .i64 c]) ∧ ((k % 64 = 0 ∧ 1 ≤ k / 64 ∧ k / 64 ≤ 16384 ∧ c = 0) ∨ (¬ (k % 64 = 0 ∧ 1 ≤ k / 64 ∧ k / 64 ≤ 16384) ∧ c = 60)) ∧ Below w.heap.size w w') := by
  by_cases h : k % 64 = 0 ∧ 1 ≤ k / 64 ∧ k / 64 ≤ 16384
  · refine (ropen_yes (nought k) (k / 64) (by rw [size_nought]; omega) h.2.1 h.2.2 (fun j hj => nought_part (by omega)) w).mono ?_
    rintro e w' ⟨rfl, a, c, ho, hr, hB⟩
    exact ⟨_, _, rfl, .inl ⟨h.1, h.2.1, h.2.2, rfl⟩, hB⟩
  · refine (ropen_no (nought k) (by rw [size_nought]; omega) (by rw [size_nought]; omega) w).mono ?_
    rintro e w' ⟨rfl, rfl⟩
    exact ⟨_, _, rfl, .inr ⟨h, rfl⟩, Below.refl _ _⟩
theorem new_two (n : Int) (w : World) :
    Calls Tryd.prog 11 #[.int .i64 n] w (fun e w' => ∃ p c, e = .returned (.tuple #[p, .int .i64 c]) ∧ ((1 ≤ n ∧ n ≤ 16384 ∧ c = 0 ∧ ∃ b g m, p = .pointer (some ⟨b, 0, none⟩) ∧ DiskAt b g m (fresh (blank n.toNat)) w') ∨ (¬ (1 ≤ n ∧ n ≤ 16384) ∧ c = 60 ∧ p = .pointer none)) ∧ Below w.heap.size w w') := by
  by_cases h : 1 ≤ n ∧ n ≤ 16384
  · obtain ⟨k, rfl⟩ := Int.eq_ofNat_of_zero_le (show 0 ≤ n by omega)
    refine (new_yes k (by omega) (by omega) w).mono ?_
    rintro e w' ⟨b, g, m, rfl, hd, ho, hB⟩
    exact ⟨_, _, rfl, .inl ⟨h.1, h.2, rfl, b, g, m, rfl, hd⟩, hB⟩
  · refine (new_no n (by omega) w).mono ?_
    rintro e w' ⟨rfl, rfl⟩
    exact ⟨_, _, rfl, .inr ⟨h, rfl, rfl⟩, Below.refl _ _⟩
theorem rnew_two (n : Int) (w : World) :
    Calls Tryd.prog 12 #[.int .i64 n] w (fun e w' => ∃ p c, e = .returned (.tuple #[p, .int .i64 c]) ∧ ((1 ≤ n ∧ n ≤ 16384 ∧ c = 0) ∨ (¬ (1 ≤ n ∧ n ≤ 16384) ∧ c = 60)) ∧ Below w.heap.size w w') := by
  by_cases h : 1 ≤ n ∧ n ≤ 16384
  · obtain ⟨k, rfl⟩ := Int.eq_ofNat_of_zero_le (show 0 ≤ n by omega)
    refine (rnew_yes k (by omega) (by omega) w).mono ?_
    rintro e w' ⟨r, rfl, hr, a, c, ho, hrow, hB⟩
    exact ⟨_, _, rfl, .inl ⟨h.1, h.2, rfl⟩, hB⟩
  · refine (rnew_no n (by omega) w).mono ?_
    rintro e w' ⟨rfl, rfl⟩
    exact ⟨_, _, rfl, .inr ⟨h, rfl⟩, Below.refl _ _⟩

/-- the answers on a disk of so many sectors -/
theorem sectors_t {b g cap m k : Nat} {w : World} (ho : w.heap[b]? = some (DObj g cap m ⟨#[]⟩ 0 (fresh (blank k)))) (hk : k ≤ 16384) : Calls Tryd.prog 14 #[.pointer (some ⟨b, 0, none⟩)] w fun e w' => e = .returned (.int .i64 k) ∧ w = w' := by
  have := sectors_obj ho (by simpa [fresh, blank] using hk)
  simpa [fresh, blank] using this
theorem loose_t {b g cap m k : Nat} {w : World} (ho : w.heap[b]? = some (DObj g cap m ⟨#[]⟩ 0 (fresh (blank k)))) (hl : LooseAt m [] w (.map [])) : Calls Tryd.prog 15 #[.pointer (some ⟨b, 0, none⟩)] w fun e w' => e = .returned (.int .i64 0) ∧ w = w' := loose_obj ho hl
theorem dead_t {b g cap m k : Nat} {w : World} (ho : w.heap[b]? = some (DObj g cap m ⟨#[]⟩ 0 (fresh (blank k)))) : Calls Tryd.prog 16 #[.pointer (some ⟨b, 0, none⟩)] w fun e w' => e = .returned (.bool false) ∧ w = w' := dead_obj ho
theorem steps_t {b g cap m k : Nat} {w : World} (ho : w.heap[b]? = some (DObj g cap m ⟨#[]⟩ 0 (fresh (blank k)))) : Calls Tryd.prog 17 #[.pointer (some ⟨b, 0, none⟩)] w fun e w' => e = .returned (.int .i64 0) ∧ w = w' := steps_obj ho

set_option maxRecDepth 100000 in
set_option maxHeartbeats 4000000 in
theorem walk (n0 n1 : Int) (w : World) (_r0 : IntOk n0) (_r1 : IntOk n1) :
    Calls Tryd.prog 3 #[.int .i64 n0, .int .i64 n1] w fun r w' => r = .returned (.bool true) ∧ Below w.heap.size w w' := by
  obtain ⟨P, Q, ⟨p1, p2, p3⟩, ⟨q1, q2, q3⟩, hQ1, hQ2⟩ := clamp n0 0 1048640 (by omega)
  obtain ⟨k, rfl⟩ := Int.eq_ofNat_of_zero_le hQ1
  have hk : k ≤ 1048640 := by omega
  have M := fun w => made_text w k hk
  have M1 := fun w => (M w).1
  have M2 := fun w => (M w).2
  have O1 := fun w => open_two k hk w
  have O2 := fun w => ropen_two k hk w
  have N1 := fun w => new_two n1 w
  have N2 := fun w => rnew_two n1 w
  obtain ⟨X, hX⟩ : ∃ X, nought k = X := ⟨_, rfl⟩
  rw [hX] at O1 O2
  simp only [hX] at M2
  obtain ⟨MC, hMC⟩ : ∃ MC, madeCells #[Value.int .u8 0] k = MC := ⟨_, rfl⟩
  simp only [hMC] at M1 M2
  clear M hX hMC hQ1 hQ2
  go_enter Tryd.func3, Tryd.ntmps3
  go_wp2_with fail
  refine (O1 _).mono ?_
  rintro e w1 ⟨pd, cd, rfl, hd, hB⟩
  have HB1 := Lib.hid (((Below.refl _ w).alloc (Nat.le_refl _) (.cells MC 5)).trans (hB.mono (by simp)))
  clear hB p1 p2 p3 q1 q2 q3 O1
  rcases hd with ⟨h1, h2, h3, rfl, b, g, cap, m, rfl, ho, hl, hk'⟩ | ⟨hn, rfl, rfl⟩
  · have HO := Lib.hid ho
    have HL := Lib.hid hl
    have HK := Lib.hid hk'
    clear ho hl hk'
    have M3 := M1 w1
    have M4 := M2 w1
    go_wp2_with fail
    refine (O2 _).mono ?_
    rintro e w2 ⟨pr, cr, rfl, hr, hB⟩
    obtain rfl : cr = 0 := by rcases hr with hr | hr <;> omega
    have HB2 := Lib.hid (HB1.out.trans (((Below.refl _ w1).alloc (Nat.le_refl _) (.cells MC 5)).trans (hB.mono (by simp)) |>.mono HB1.out.size))
    have HB12 := Lib.hid (((Below.refl _ w1).alloc (Nat.le_refl _) (.cells MC 5)).trans (hB.mono (by simp)))
    clear hr hB M3 M4 M1 M2 O2
    go_wp2_with fail
    refine (N1 _).mono ?_
    rintro e w3 ⟨pc, cc, rfl, hc, hB⟩
    have HB3 := Lib.hid (HB2.out.trans (hB.mono HB2.out.size))
    have HB13 := Lib.hid (HB12.out.trans (hB.mono HB12.out.size))
    rcases hc with ⟨c1, c2, rfl, b5, g5, m5, rfl, hd5⟩ | ⟨hc, rfl, rfl⟩
    · go_wp2_with fail
      refine (N2 _).mono ?_
      rintro e w4 ⟨pq, cq, rfl, hq, hB'⟩
      obtain rfl : cq = 0 := by rcases hq with hq | hq <;> omega
      have HB4 := Lib.hid (HB3.out.trans (hB'.mono HB3.out.size))
      have HB14 := Lib.hid (HB13.out.trans (hB'.mono HB13.out.size))
      have HD4 := Lib.hid (hd5.below hB')
      clear hq hB hB' hd5 N1 N2
      go_wp2_with fail
      refine (fixed_any _).mono ?_
      rintro e w5 ⟨rfl, hB⟩
      have HB5 := Lib.hid (HB4.out.trans (hB.mono HB4.out.size))
      have HB15 := Lib.hid (HB14.out.trans (hB.mono HB14.out.size))
      have HD6 := Lib.hid (HD4.out.below hB)
      clear hB
      have ho5 := keeps_of HB15.out HO.out
      have hl5 := HL.out.below HB15.out
      have S1 := sectors_t ho5 HK.out
      have S2 := loose_t ho5 hl5
      have S3 := dead_t ho5
      have S4 := steps_t ho5
      clear ho5 hl5
      go_wp2_with fail
      refine S1.mono ?_
      rintro e w' ⟨rfl, rfl⟩
      go_wp2_with fail
      refine S2.mono ?_
      rintro e w' ⟨rfl, rfl⟩
      go_wp2_with fail
      refine S3.mono ?_
      rintro e w' ⟨rfl, rfl⟩
      go_wp2_with fail
      refine S4.mono ?_
      rintro e w' ⟨rfl, rfl⟩
      have S5 := sectors_any HD6.out
      rw [show ((fresh (blank n1.toNat)).stay.length : Int) = n1 by simp [fresh, blank]; omega] at S5
      go_wp2_with fail
      refine S5.mono ?_
      rintro e w' ⟨rfl, rfl⟩
      go_wp2
      go_ret
      exact ⟨rfl, HB5.out⟩
    · go_wp2_with fail
      refine (N2 _).mono ?_
      rintro e w4 ⟨pq, cq, rfl, hq, hB'⟩
      obtain rfl : cq = 60 := by rcases hq with hq | hq <;> omega
      have HB4 := Lib.hid (HB3.out.trans (hB'.mono HB3.out.size))
      have HB14 := Lib.hid (HB13.out.trans (hB'.mono HB13.out.size))
      clear hq hB hB' N1 N2
      go_wp2_with fail
      refine (fixed_any _).mono ?_
      rintro e w5 ⟨rfl, hB⟩
      have HB5 := Lib.hid (HB4.out.trans (hB.mono HB4.out.size))
      have HB15 := Lib.hid (HB14.out.trans (hB.mono HB14.out.size))
      clear hB
      have ho5 := keeps_of HB15.out HO.out
      have hl5 := HL.out.below HB15.out
      have S1 := sectors_t ho5 HK.out
      have S2 := loose_t ho5 hl5
      have S3 := dead_t ho5
      have S4 := steps_t ho5
      clear ho5 hl5
      go_wp2_with fail
      refine S1.mono ?_
      rintro e w' ⟨rfl, rfl⟩
      go_wp2_with fail
      refine S2.mono ?_
      rintro e w' ⟨rfl, rfl⟩
      go_wp2_with fail
      refine S3.mono ?_
      rintro e w' ⟨rfl, rfl⟩
      go_wp2_with fail
      refine S4.mono ?_
      rintro e w' ⟨rfl, rfl⟩
      go_wp2
      go_ret
      exact ⟨rfl, HB5.out⟩
  · have hkk := hk
    clear hkk
    have M3 := M1 w1
    have M4 := M2 w1
    go_wp2_with fail
    refine (O2 _).mono ?_
    rintro e w2 ⟨pr, cr, rfl, hr, hB⟩
    obtain rfl : cr = 60 := by rcases hr with hr | hr <;> omega
    have HB2 := Lib.hid (HB1.out.trans (((Below.refl _ w1).alloc (Nat.le_refl _) (.cells MC 5)).trans (hB.mono (by simp)) |>.mono HB1.out.size))
    have HB12 := Lib.hid (((Below.refl _ w1).alloc (Nat.le_refl _) (.cells MC 5)).trans (hB.mono (by simp)))
    clear hr hB M3 M4 M1 M2 O2
    go_wp2_with fail
    refine (N1 _).mono ?_
    rintro e w3 ⟨pc, cc, rfl, hc, hB⟩
    have HB3 := Lib.hid (HB2.out.trans (hB.mono HB2.out.size))
    have HB13 := Lib.hid (HB12.out.trans (hB.mono HB12.out.size))
    rcases hc with ⟨c1, c2, rfl, b5, g5, m5, rfl, hd5⟩ | ⟨hc, rfl, rfl⟩
    · go_wp2_with fail
      refine (N2 _).mono ?_
      rintro e w4 ⟨pq, cq, rfl, hq, hB'⟩
      obtain rfl : cq = 0 := by rcases hq with hq | hq <;> omega
      have HB4 := Lib.hid (HB3.out.trans (hB'.mono HB3.out.size))
      have HB14 := Lib.hid (HB13.out.trans (hB'.mono HB13.out.size))
      have HD4 := Lib.hid (hd5.below hB')
      clear hq hB hB' hd5 N1 N2
      go_wp2_with fail
      refine (fixed_any _).mono ?_
      rintro e w5 ⟨rfl, hB⟩
      have HB5 := Lib.hid (HB4.out.trans (hB.mono HB4.out.size))
      have HB15 := Lib.hid (HB14.out.trans (hB.mono HB14.out.size))
      have HD6 := Lib.hid (HD4.out.below hB)
      clear hB
      have S5 := sectors_any HD6.out
      rw [show ((fresh (blank n1.toNat)).stay.length : Int) = n1 by simp [fresh, blank]; omega] at S5
      go_wp2_with fail
      refine S5.mono ?_
      rintro e w' ⟨rfl, rfl⟩
      go_wp2
      go_ret
      exact ⟨rfl, HB5.out⟩
    · go_wp2_with fail
      refine (N2 _).mono ?_
      rintro e w4 ⟨pq, cq, rfl, hq, hB'⟩
      obtain rfl : cq = 60 := by rcases hq with hq | hq <;> omega
      have HB4 := Lib.hid (HB3.out.trans (hB'.mono HB3.out.size))
      have HB14 := Lib.hid (HB13.out.trans (hB'.mono HB13.out.size))
      clear hq hB hB' N1 N2
      go_wp2_with fail
      refine (fixed_any _).mono ?_
      rintro e w5 ⟨rfl, hB⟩
      have HB5 := Lib.hid (HB4.out.trans (hB.mono HB4.out.size))
      have HB15 := Lib.hid (HB14.out.trans (hB.mono HB14.out.size))
      clear hB
      go_wp2
      go_ret
      exact ⟨rfl, HB5.out⟩
set_option maxRecDepth 100000 in
/-- WHAT THE WALK GIVES, for every argument that can be read. -/
theorem contract (H : Type) (enc : TypeId × Value → H) (W : World) (base : Nat) (args : Array Value) (ds gs : List (DataW H)) (before : List MemPlace)
    (hval : ∀ (j : Nat) t v, Tryd.f3.params[j]? = some t → args[j]? = some v → Value.okWide Tryd.prog W .any base t v)
    (hW : DataW.Whole enc Tryd.prog Tryd.f3.params.toList Rows.diskOpensSpec.vars false W args.toList ds gs before)
    (hreach : (DataW.weightsEach Tryd.prog (Tryd.f3.params.toList) ds).all (· ≤ reachBytes) = true) :
    Calls Tryd.prog 3 args W fun e W' => ∃ v, e = .returned v ∧ Rows.diskOpensSpec.post enc Tryd.prog Tryd.f3 false true false false W args v W' := by
  have hW' := hW
  obtain ⟨p, q, hA0, hV, rfl, hfz, hnd⟩ := hW
  have hA : DataW.TrodAll enc Tryd.prog W 0 (fun _ => true) true Tryd.f3.params.toList args.toList ds p := hA0
  rw [Tryd.params3] at hA hval hreach
  obtain ⟨v0, v1, d0, d1, p0, p1, rfl, rfl, rfl, h0, h1⟩ := trodAll_two hA
  obtain ⟨rfl, rfl⟩ := trodVars_none hV
  obtain ⟨n0, rfl, rfl, rfl, wn0⟩ := open_int Tryd.underlying3 (hval 0 3 v0 rfl rfl) h0
  have r0 := int_range wn0
  obtain ⟨n1, rfl, rfl, rfl, wn1⟩ := open_int Tryd.underlying3 (hval 1 3 v1 rfl rfl) h1
  have r1 := int_range wn1
  clear hA0 hval
  simp only [List.append_nil] at hW'
  refine (walk n0 n1 W r0 r1).mono fun e W' ⟨he, hB⟩ => ?_
  subst he
  exact ⟨_, rfl, post_of_below (pa := [] ++ ([])) (pv := []) hW' (fun _ _ _ => trodAll_mk1 (shut_bool Tryd.underlying4 _)) (fun sp hsp => trodAll_mk2 (shut_int Tryd.underlying3 wn0) (shut_int Tryd.underlying3 wn1)) (fun _ _ => rfl) (by simp) hB (ok_one (by kernel_rfl) rfl (okWide_bool_mk Tryd.underlying4 _))⟩

theorem reads (os : Os) {H : Type} (enc : TypeId × Value → H) : ∃ places, DataW.whole enc Tryd.prog ((laidWorld os).forCall (fun _ _ => 0) ⟨#[], #[.int .i64 0, .int .i64 0], []⟩).memory Tryd.f3.params.toList Rows.diskOpensSpec.vars false (#[.int .i64 0, .int .i64 0] : Array Value).toList 8 = some ([.lit (.int .i64 0), .lit (.int .i64 0)], [], places) :=
  ⟨[], by kernel_rfl⟩

set_option maxRecDepth 100000 in
theorem lifted (os : Os) (started : os.Started) (H : Type) (enc : TypeId × Value → H) (F : Stop.Interp) :
    ReturnsInHanded {} Tryd.checked os 3 .any ((OpenSpec.ofChange Rows.diskOpensSpec).preRow enc Tryd.prog Tryd.f3 Rows.diskOpensRow.domain false Rows.diskOpensRow.laid) (((OpenSpec.ofChange Rows.diskOpensSpec).at F).post enc Tryd.prog Tryd.f3 false true false false) := by
  obtain ⟨places, hx⟩ := reads os enc
  refine returnsInHanded_of_row (C := Tryd.checked) (s := OpenSpec.ofChange Rows.diskOpensSpec) own started (by kernel_rfl) Tryd.func3
    (witness_row_at (enc := enc) (C := Tryd.checked) false (laidWorld os) #[.int .i64 0, .int .i64 0] rfl (by kernel_rfl) (by kernel_rfl) (by kernel_rfl)
      (OpenSpec.preRow_of_cond 8 hx (by kernel_rfl) (fun k hk => by cases hk) (by kernel_rfl) (laid_met os _))) ?_
  intro W base args ds gs before hval hW _ hcond hreach hL _ _
  obtain ⟨p, q, hA0, hV, hpq, hfz, hnd⟩ := id hW
  obtain ⟨rfl, _⟩ := trodVars_none hV
  rw [List.append_nil] at hreach
  exact contract H enc W base args ds [] before hval hW hreach

theorem said : Rows.DiskOpensSaid :=
  OpenClaim.holds_of_cond 3 Tryd.f3 rfl rfl rfl rfl rfl rfl rfl ⟨rfl, rfl, rfl, rfl, rfl⟩ rfl rfl rfl rfl rfl (by kernel_rfl) Tryd.func3 (by kernel_rfl)
    (of_decide_eq_true (by kernel_rfl)) (by unfold Func.isWrapper; first | (rw [if_pos (by decide +kernel)]; kernel_rfl) | (rw [if_neg (by decide +kernel)]; exact ⟨rfl, rfl⟩))
    (fun os started H enc _ F => by rw [OpenClaim.pre_eq_preRow]; exact lifted os started H enc F)

theorem plain (f : FuncId) (fn : Func) (hf : Tryd.pinned.checked.prog.funcNamed "stillage/stillagelaw06.DiskOpens" = some f) (hfn : Tryd.pinned.checked.prog.funcs[f]? = some fn) :
    true = Tryd.pinned.checked.prog.looks [] ∧ ∀ (j : Nat) t, fn.params[j]? = some t → Tryd.pinned.checked.prog.wantsStandIn t = false := by
  obtain rfl : f = 3 := Option.some.inj ((show Tryd.prog.funcNamed "stillage/stillagelaw06.DiskOpens" = some 3 by kernel_rfl).symm.trans hf) |>.symm
  obtain rfl : fn = Tryd.f3 := (Option.some.inj (Tryd.func3.symm.trans hfn)).symm
  refine ⟨by kernel_rfl, fun j t ht => ?_⟩
  rw [Tryd.params3] at ht
  have hm : t ∈ [3, 3] := by simpa using Array.mem_of_getElem? ht
  have hall : ([3, 3].all fun u => !Tryd.prog.wantsStandIn u) = true := by kernel_rfl
  exact (show Tryd.prog.wantsStandIn t = false by simpa using List.all_eq_true.1 hall t hm)

/-- THE CARD -/
theorem card : Rows.DiskOpensCardSaid :=
  Claim7.holds_tied_plain_at .later [] _ _ _ _ said (fun _ h => by cases h) (by kernel_rfl) (fun _ h => by cases h) diskOpens_row_tie rfl ⟨rfl, rfl⟩ (by kernel_rfl) rfl plain (by kernel_rfl)


end Go.Proofs.YtickjomnmifmjaaDoor.opens
