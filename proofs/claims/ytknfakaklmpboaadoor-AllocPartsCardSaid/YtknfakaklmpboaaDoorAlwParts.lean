/-
  What is picked in two goes, the second one from where the first one ended, with what was picked used, is what is picked at once: for every text, number of blocks, place, number of blocks wanted, and number (of which the low bits say how many are picked first); of at most 300 blocks and 4096 wanted.
  Conditions: none besides the row's own.
-/
import Derived.Test.YtknfakaklmpboaaDoorAlcH
import Derived.Deep.RegionHeld3
namespace Go.Proofs.YtknfakaklmpboaaDoor.parts
open Go.ChangeShapes Go.WideShapes Go.ChangeAt Go.RowKit Go.Shelf Go SM PL AL

set_option maxRecDepth 100000 in
set_option maxHeartbeats 16000000 in
theorem walk (u : ByteArray) (b f m : Int) (z : Int) (w : World) (hk : AskOk u b f m) (hz : -9223372036854775808 ≤ z ∧ z ≤ 9223372036854775807) :
    Calls Tryd.prog 3 #[askV u b f m, .int .i64 z] w fun r w' => r = .returned (.bool true) ∧ Below w.heap.size w w' := by
  have CF := fun w => fixed10_any w
  have hu : u.size ≤ 140737488355328 := by have := hk.size; omega
  have hb := hk.blocks
  have hf := hk.place
  have hm := hk.many
  unfold IntOk at hb hf hm
  unfold askV
  obtain ⟨w0, hw0⟩ : ∃ w0, w.alloc (.cells #[.string u, .int .i64 b, .int .i64 f, .int .i64 m] 23) = w0 := ⟨_, rfl⟩
  have HA := Lib.hid (show AskAt w.heap.size u b f m w0 by rw [← hw0]; exact AskAt.new _ _ _ _ _)
  have HB0 := Lib.hid (show Below w.heap.size w w0 by rw [← hw0]; exact (Below.refl _ w).alloc (Nat.le_refl _) _)
  obtain ⟨c0, c1, c2, c3⟩ := HA.out.cells
  clear hk
  have hcase : m < 0 ∨ (¬ m < 0 ∧ 4096 < m) ∨ (¬ m < 0 ∧ ¬ 4096 < m ∧ 300 < b) ∨ (¬ m < 0 ∧ ¬ 4096 < m ∧ ¬ 300 < b) := by omega
  rcases hcase with h1 | ⟨h1, h2⟩ | ⟨h1, h2, h3⟩ | ⟨h1, h2, h3⟩
  · go_enter Tryd.func3, Tryd.ntmps3
    go_wp2_with fail
    refine (CF _).mono ?_
    rintro e w5 ⟨rfl, hB5⟩
    have HB5 := Lib.hid (HB0.out.trans (hB5.mono HB0.out.size))
    clear hB5
    go_wp2
    go_ret
    exact ⟨rfl, HB5.out⟩
  · go_enter Tryd.func3, Tryd.ntmps3
    go_wp2_with fail
    refine (CF _).mono ?_
    rintro e w5 ⟨rfl, hB5⟩
    have HB5 := Lib.hid (HB0.out.trans (hB5.mono HB0.out.size))
    clear hB5
    go_wp2
    go_ret
    exact ⟨rfl, HB5.out⟩
  · go_enter Tryd.func3, Tryd.ntmps3
    go_wp2_with fail
    refine (CF _).mono ?_
    rintro e w5 ⟨rfl, hB5⟩
    have HB5 := Lib.hid (HB0.out.trans (hB5.mono HB0.out.size))
    clear hB5
    go_wp2
    go_ret
    exact ⟨rfl, HB5.out⟩
  · cases h4 : badA b f with
    | true =>
      have CP := fun w => apick_bad u b f m h4 w
      clear h4
      go_enter Tryd.func3, Tryd.ntmps3
      go_wp2_with fail
      refine (CP _).mono ?_
      rintro e w4 ⟨rfl, rfl⟩
      go_wp2_with fail
      refine (CF _).mono ?_
      rintro e w5 ⟨rfl, hB5⟩
      have HB5 := Lib.hid (HB0.out.trans (hB5.mono HB0.out.size))
      clear hB5
      go_wp2
      go_ret
      exact ⟨rfl, HB5.out⟩
    | false =>
      obtain ⟨n, g, rfl, rfl, k1, k2, k3, k4⟩ := badA_no h4
      have hl := length_frees u.data.toList n
      rw [← length_ord _ _ g] at hl
      by_cases h5 : ((ord u.data.toList n g).length : Int) < m
      · have CP := fun w => apick_full u n g hu k1 k2 k3 k4 m h5 w
        clear h5 hl k1 k2 k3 k4 h4
        go_enter Tryd.func3, Tryd.ntmps3
        go_wp2_with fail
        refine (CP _).mono ?_
        rintro e w4 ⟨rfl, hB4⟩
        have HB4 := Lib.hid (HB0.out.trans (hB4.mono HB0.out.size))
        clear hB4
        go_wp2_with fail
        refine (CF _).mono ?_
        rintro e w5 ⟨rfl, hB5⟩
        have HB5 := Lib.hid (HB4.out.trans (hB5.mono HB4.out.size))
        clear hB5
        go_wp2
        go_ret
        exact ⟨rfl, HB5.out⟩
      · obtain ⟨K, rfl⟩ : ∃ K : Nat, m = (K : Int) := ⟨m.toNat, by omega⟩
        have hK : K ≤ (ord u.data.toList n g).length := by omega
        obtain ⟨y, hy1, hy2⟩ := and_to 4095 (by omega) z
        have hy1' : bits .and .i64 z 4095 = (y : Int) := hy1
        have CP := fun w => apick_yes u n g hu k1 k2 k3 k4 K hK w
        have CQ0 := fun (N : Nat) (hN : N ≤ (ord u.data.toList n g).length) w => apick_yes u n g hu k1 k2 k3 k4 N hN w
        unfold PickP at CP CQ0
        have HPart := Lib.hid (fun (N : Nat) (U : ByteArray) (hN : N ≤ (ord u.data.toList n g).length) (hb : ∀ m, bit U.data.toList m = (bit u.data.toList m || decide (m ∈ (ord u.data.toList n g).take N))) (hU : U.size ≤ 140737488355328) (M : Nat) (hM : N + M ≤ (ord u.data.toList n g).length) w =>
          show Calls Tryd.prog 6 #[.string U, .int .i64 n, .int .i64 (placeAt (ord u.data.toList n g) g N : Nat), .int .i64 M] w fun e w' => ∃ a cap, e = .returned (.tuple #[.slice a M cap, .int .i64 (placeAt (ord u.data.toList n g) g (N + M) : Nat), .int .i64 0]) ∧ w'.ownsRow w.heap.size 3 1 (.slice a M cap) M (ints (((ord u.data.toList n g).drop N).take M)) ∧ Below w.heap.size w w' from by
            have hr := placeAt_range (u := u.data.toList) (n := n) k3 k4 hN
            have hO := ord_parts hN hb
            have := apick_yes U n (placeAt (ord u.data.toList n g) g N) hU k1 k2 hr.1 hr.2 M (by rw [hO, List.length_drop]; omega) w
            unfold PickP at this
            rw [hO, placeAt_drop hM] at this
            exact this)
        have hsm : ∀ m ∈ ord u.data.toList n g, m ≤ 65535 := fun m hm => by have := (mem_frees.1 (mem_ord.1 hm)).1; omega
        have hg5 : (g : Int) ≤ 4096 := by omega
        have hn5 : (n : Int) ≤ 4096 := by omega
        generalize ord u.data.toList n g = o at *
        have hK5 : (K : Int) ≤ 4096 := by omega
        have hy5 : (y : Int) ≤ 4095 := by omega
        have hlK : (o.take K).length = K := by rw [List.length_take]; omega
        obtain ⟨P1, hP1⟩ : ∃ P1, placeAt o g K = P1 := ⟨_, rfl⟩
        rw [hP1] at CP
        clear h5 hl hy1 k1 k2 k3 k4 h4 hz hm hb hf h1 h2
        by_cases hyK : K < y
        · have hyi : (K : Int) < (y : Int) := by omega
          have hNK : K ≤ K := Nat.le_refl K
          have hM : K - K = 0 := by omega
          have hKN : (K : Int) - (K : Int) = (0 : Int) := by omega
          have hMw : IntKind.i64.wrap ((K : Int) - (K : Int)) = (0 : Int) := by rw [hKN]; exact wrapI _ (by omega) (by omega)
          have hNl : K ≤ o.length := by omega
          have CQ := fun w => CQ0 K hNl w
          have HNK := Lib.hid (And.intro hNK (show K + 0 = K by omega))
          obtain ⟨P2, hP2⟩ : ∃ P2, placeAt o g K = P2 := ⟨_, rfl⟩
          rw [hP2] at CQ
          have hlN : (o.take K).length = K := by rw [List.length_take]; omega
          have hxs : ∀ m ∈ o.take K, m ≤ 65535 := fun m hm => hsm m (List.mem_of_mem_take hm)
          have CV := fun v W (h : IntsAt W v (intsN (o.take K))) => of_any v _ (by rw [length_intsN, hlN]; omega) W h
          rw [ofV_nats hxs] at CV
          have hTs : (bs (ofL (intsN (o.take K)))).size ≤ 140737488355328 := by
            rw [bs_size, length_ofL]
            have := lenI_le (okI_nats hxs)
            omega
          have hbit := bits_or u hxs
          have CO := fun w => or_b u (bs (ofL (intsN (o.take K)))) w hu hTs
          have hOs : (orB u (bs (ofL (intsN (o.take K))))).size ≤ 140737488355328 := Nat.le_trans (size_orB _ _) (Nat.max_le.2 ⟨hu, hTs⟩)
          have CR := fun w => HPart.out K (orB u (bs (ofL (intsN (o.take K))))) hNl hbit hOs 0 (by omega) w
          rw [hP2, show K + 0 = K by omega, hP1] at CR
          try rw [show ((0 : Nat) : Int) = 0 from rfl] at CR
          generalize orB u (bs (ofL (intsN (o.take K)))) = U at *
          generalize bs (ofL (intsN (o.take K))) = T at *
          have HApp := Lib.hid (show o.take K ++ (o.drop K).take 0 = o.take K by
            have h := List.take_add (l := o) (i := K) (j := 0)
            rw [show K + 0 = K by omega] at h
            exact h.symm)
          have HLen := Lib.hid (And.intro hlN (show ((o.drop K).take 0).length = 0 by rw [List.length_take, List.length_drop]; omega))
          have CS := fun v v' W (h : IntsAt W v (intsN (o.take K))) (h' : IntsAt W v' (intsN (o.take K))) => same_any v v' (intsN (o.take K)) (intsN (o.take K)) (by rw [length_intsN, hlK]; omega) (by rw [length_intsN, hlK]; omega) W h h'
          simp only [decide_true] at CS
          have HlK := Lib.hid hlK
          have hN5 : (K : Int) ≤ 4096 := by omega
          clear hxs hTs hbit hOs hsm hP1 hP2 hKN hNl hlN hlK HPart CQ0 hK hNK hM
          go_enter Tryd.func3, Tryd.ntmps3
          go_wp2_with fail
          refine (CP _).mono ?_
          rintro e w1 ⟨a, cap, rfl, ho1, hB1⟩
          have HA1 := Lib.hid (HA.out.later hB1)
          have HB1 := Lib.hid (HB0.out.trans (hB1.mono HB0.out.size))
          have HI1 := Lib.hid (owns_ints (l := o.take K) (by rw [HlK.out]; exact ho1))
          obtain ⟨d0, d1, d2, d3⟩ := HA1.out.cells
          clear ho1 hB1 CP c0 c1 c2 c3 HB0 HA hw0
          go_wp2_with fail
          refine (CQ _).mono ?_
          rintro e w2 ⟨a2, cap2, rfl, ho2, hB2⟩
          have HA2 := Lib.hid (HA1.out.later hB2)
          have HB2 := Lib.hid (HB1.out.trans (hB2.mono HB1.out.size))
          have HI2 := Lib.hid (HI1.out.later hB2)
          have HO2 := Lib.hid (show w2.ownsRow w1.heap.size 3 1 (.slice a2 K cap2) (o.take K).length (ints (o.take K)) by rw [HLen.out.1]; exact ho2)
          have C := CV _ _ (owns_ints HO2.out)
          clear ho2 hB2 CQ CV d0 d1 d2 d3 HA1 HI1
          go_wp2_with fail
          refine C.mono ?_
          rintro e w3 ⟨rfl, hB3⟩
          have hB3d := hB3.trans ((Below.refl _ w3).drew.mono hB3.size)
          have HA3 := Lib.hid (HA2.out.later hB3d)
          have HB3 := Lib.hid (HB2.out.trans (hB3d.mono HB2.out.size))
          have HI3 := Lib.hid (HI2.out.later hB3d)
          have HO3 := Lib.hid (owns_keep HO2.out (fun j hj => hB3d.block j (HO2.out.lt j hj).2))
          obtain ⟨d0, d1, d2, d3⟩ := HA3.out.cells
          clear hB3 hB3d C HA2 HI2 HO2
          go_wp2
          go_region_held3 (fun w' => w'.cell? ⟨w.heap.size, 0, none⟩ = some (.string u) ∧ w'.cell? ⟨w.heap.size, 1, none⟩ = some (.int .i64 (n : Int)) ∧ w'.cell? ⟨w.heap.size, 3, none⟩ = some (.int .i64 (K : Int)))
            (first | exact ⟨d0, d1, d3⟩ | exact ⟨e0, e1, e3⟩ | exact ⟨f0, f1, f3⟩)
            (first
              | (go_at_call 8; refine (CO _).mono ?_; rintro e w4 ⟨rfl, hB⟩; have HA4 := Lib.hid (HA3.out.later hB); have HB4 := Lib.hid (HB3.out.trans (hB.mono HB3.out.size)); have HI4 := Lib.hid (HI3.out.later hB); have HO4 := Lib.hid (owns_keep HO3.out (fun j hj => hB.block j (HO3.out.lt j hj).2)); obtain ⟨e0, e1, e2, e3⟩ := HA4.out.cells; clear hB)
              | (go_at_call 6; refine (CR _).mono ?_; rintro e w5 ⟨a5, cap5, rfl, ho5, hB⟩; have HA5 := Lib.hid (HA4.out.later hB); have HB5 := Lib.hid (HB4.out.trans (hB.mono HB4.out.size)); have HI5 := Lib.hid (HI4.out.later hB); have HO5 := Lib.hid (owns_keep HO4.out (fun j hj => hB.block j (HO4.out.lt j hj).2)); have HY5 := Lib.hid (show w5.ownsRow w4.heap.size 3 1 (.slice a5 0 cap5) ((o.drop K).take 0).length (ints ((o.drop K).take 0)) by rw [HLen.out.2]; exact ho5); obtain ⟨f0, f1, f2, f3⟩ := HA5.out.cells; clear hB ho5))
          all_goals (
            clear CO CR d0 d1 d2 d3 e0 e1 e2 e3 f0 f1 f2 f3 HA3 HA4 HB3 HB4 HI3 HI4 HO3 HO4
            go_wp2_with fail
            refine (CF _).mono ?_
            rintro e w6 ⟨rfl, hB6⟩
            have HB6 := Lib.hid (HB5.out.trans (hB6.mono HB5.out.size))
            have HI6 := Lib.hid (HI5.out.later hB6)
            have HO6 := Lib.hid (owns_keep HO5.out (fun j hj => hB6.block j (HO5.out.lt j hj).2))
            have HY6 := Lib.hid (owns_keep HY5.out (fun j hj => hB6.block j (HY5.out.lt j hj).2))
            have HBA := Lib.hid (show Below w6.heap.size w6 (w6.alloc (.cells #[] 3)) from (Below.refl _ w6).alloc (Nat.le_refl _) _)
            have HOA := Lib.hid (owns_keep HO6.out (fun j hj => HBA.out.block j (HO6.out.lt j hj).2))
            have hrow0 : (w6.alloc (.cells #[] 3)).ownsRow w6.heap.size 3 1 (.slice (some ⟨w6.heap.size, 0, none⟩) 0 0) ([] : List Nat).length (ints []) := World.ownsRow_made w6 #[] 0 (Nat.le_refl _) (by unfold maxLen; omega) (by simp)
            have hszA : w6.heap.size ≤ (w6.alloc (.cells #[] 3)).heap.size := HBA.out.size
            have HNl := Lib.hid (show ([] : List Nat).length + (o.take K).length ≤ 1000000 by rw [HLen.out.1]; simp; omega)
            have HNm := Lib.hid (show (([] : List Nat) ++ o.take K).length + ((o.drop K).take 0).length ≤ 1000000 by rw [List.nil_append, HLen.out.1, HLen.out.2]; have := HNK.out.2; omega)
            clear hB6 CF HI5 HO5 HY5
            go_wp2_with (at_builtin; first
              | (refine step_ints (by kernel_rfl) _ _ rfl w6.heap.size (.slice (some ⟨w6.heap.size, 0, none⟩) 0 0) [] rfl hrow0 (.slice a2 K cap2) (o.take K) rfl HOA.out HNl.out hszA ?_
                 intro v8 w8 hown8 hgrow8
                 have hB8 : Below w6.heap.size w6 w8 := HBA.out.grown hgrow8 hszA (fun j ej => by cases ej; exact Nat.le_refl _)
                 have HB8 := Lib.hid hB8
                 have HY8 := Lib.hid (owns_keep HY6.out (fun j hj => hB8.block j (HY6.out.lt j hj).2))
                 have HZ8 := Lib.hid hB8.size
                 have HV8 := Lib.hid (fun j (hj : v8.ownBlock = some j) => (hown8.lt j hj).1)
                 clear hB8 hgrow8)
              | (refine step_ints (by kernel_rfl) _ _ rfl w6.heap.size v8 ([] ++ o.take K) rfl hown8 (.slice a5 0 cap5) ((o.drop K).take 0) rfl HY8.out HNm.out HZ8.out ?_
                 intro v9 w9 hown9 hgrow9
                 have hB9 : Below w6.heap.size w6 w9 := HB8.out.grown hgrow9 HZ8.out HV8.out
                 have HI9 := Lib.hid (HI6.out.later hB9)
                 have HB9 := Lib.hid (HB6.out.trans (hB9.mono HB6.out.size))
                 have hi9 := owns_ints hown9
                 rw [List.nil_append, HApp.out] at hi9
                 have C9 := CS _ _ _ hi9 HI9.out
                 clear hB9 hgrow9 hown9 hi9 hown8 hrow0))
            refine C9.mono ?_
            rintro e w10 ⟨rfl, hB10⟩
            have HB10 := Lib.hid (HB9.out.trans (hB10.mono HB9.out.size))
            clear hB10 C9 CS
            go_wp2
            go_ret
            exact ⟨rfl, HB10.out⟩)
        · have hyi : ¬ (K : Int) < (y : Int) := by omega
          have hNK : y ≤ K := by omega
          obtain ⟨M, hM⟩ : ∃ M, K - y = M := ⟨_, rfl⟩
          have hKN : (K : Int) - (y : Int) = (M : Int) := by omega
          have hMw : IntKind.i64.wrap ((K : Int) - (y : Int)) = (M : Int) := by rw [hKN]; exact wrapI _ (by omega) (by omega)
          have hNl : y ≤ o.length := by omega
          have CQ := fun w => CQ0 y hNl w
          have HNK := Lib.hid (And.intro hNK (show y + M = K by omega))
          obtain ⟨P2, hP2⟩ : ∃ P2, placeAt o g y = P2 := ⟨_, rfl⟩
          rw [hP2] at CQ
          have hlN : (o.take y).length = y := by rw [List.length_take]; omega
          have hxs : ∀ m ∈ o.take y, m ≤ 65535 := fun m hm => hsm m (List.mem_of_mem_take hm)
          have CV := fun v W (h : IntsAt W v (intsN (o.take y))) => of_any v _ (by rw [length_intsN, hlN]; omega) W h
          rw [ofV_nats hxs] at CV
          have hTs : (bs (ofL (intsN (o.take y)))).size ≤ 140737488355328 := by
            rw [bs_size, length_ofL]
            have := lenI_le (okI_nats hxs)
            omega
          have hbit := bits_or u hxs
          have CO := fun w => or_b u (bs (ofL (intsN (o.take y)))) w hu hTs
          have hOs : (orB u (bs (ofL (intsN (o.take y))))).size ≤ 140737488355328 := Nat.le_trans (size_orB _ _) (Nat.max_le.2 ⟨hu, hTs⟩)
          have CR := fun w => HPart.out y (orB u (bs (ofL (intsN (o.take y))))) hNl hbit hOs M (by omega) w
          rw [hP2, show y + M = K by omega, hP1] at CR
          try rw [show ((0 : Nat) : Int) = 0 from rfl] at CR
          generalize orB u (bs (ofL (intsN (o.take y)))) = U at *
          generalize bs (ofL (intsN (o.take y))) = T at *
          have HApp := Lib.hid (show o.take y ++ (o.drop y).take M = o.take K by
            have h := List.take_add (l := o) (i := y) (j := M)
            rw [show y + M = K by omega] at h
            exact h.symm)
          have HLen := Lib.hid (And.intro hlN (show ((o.drop y).take M).length = M by rw [List.length_take, List.length_drop]; omega))
          have CS := fun v v' W (h : IntsAt W v (intsN (o.take K))) (h' : IntsAt W v' (intsN (o.take K))) => same_any v v' (intsN (o.take K)) (intsN (o.take K)) (by rw [length_intsN, hlK]; omega) (by rw [length_intsN, hlK]; omega) W h h'
          simp only [decide_true] at CS
          have HlK := Lib.hid hlK
          have hN5 : (y : Int) ≤ 4096 := by omega
          clear hxs hTs hbit hOs hsm hP1 hP2 hKN hNl hlN hlK HPart CQ0 hK hNK hM
          go_enter Tryd.func3, Tryd.ntmps3
          go_wp2_with fail
          refine (CP _).mono ?_
          rintro e w1 ⟨a, cap, rfl, ho1, hB1⟩
          have HA1 := Lib.hid (HA.out.later hB1)
          have HB1 := Lib.hid (HB0.out.trans (hB1.mono HB0.out.size))
          have HI1 := Lib.hid (owns_ints (l := o.take K) (by rw [HlK.out]; exact ho1))
          obtain ⟨d0, d1, d2, d3⟩ := HA1.out.cells
          clear ho1 hB1 CP c0 c1 c2 c3 HB0 HA hw0
          go_wp2_with fail
          refine (CQ _).mono ?_
          rintro e w2 ⟨a2, cap2, rfl, ho2, hB2⟩
          have HA2 := Lib.hid (HA1.out.later hB2)
          have HB2 := Lib.hid (HB1.out.trans (hB2.mono HB1.out.size))
          have HI2 := Lib.hid (HI1.out.later hB2)
          have HO2 := Lib.hid (show w2.ownsRow w1.heap.size 3 1 (.slice a2 y cap2) (o.take y).length (ints (o.take y)) by rw [HLen.out.1]; exact ho2)
          have C := CV _ _ (owns_ints HO2.out)
          clear ho2 hB2 CQ CV d0 d1 d2 d3 HA1 HI1
          go_wp2_with fail
          refine C.mono ?_
          rintro e w3 ⟨rfl, hB3⟩
          have hB3d := hB3.trans ((Below.refl _ w3).drew.mono hB3.size)
          have HA3 := Lib.hid (HA2.out.later hB3d)
          have HB3 := Lib.hid (HB2.out.trans (hB3d.mono HB2.out.size))
          have HI3 := Lib.hid (HI2.out.later hB3d)
          have HO3 := Lib.hid (owns_keep HO2.out (fun j hj => hB3d.block j (HO2.out.lt j hj).2))
          obtain ⟨d0, d1, d2, d3⟩ := HA3.out.cells
          clear hB3 hB3d C HA2 HI2 HO2
          go_wp2
          go_region_held3 (fun w' => w'.cell? ⟨w.heap.size, 0, none⟩ = some (.string u) ∧ w'.cell? ⟨w.heap.size, 1, none⟩ = some (.int .i64 (n : Int)) ∧ w'.cell? ⟨w.heap.size, 3, none⟩ = some (.int .i64 (K : Int)))
            (first | exact ⟨d0, d1, d3⟩ | exact ⟨e0, e1, e3⟩ | exact ⟨f0, f1, f3⟩)
            (first
              | (go_at_call 8; refine (CO _).mono ?_; rintro e w4 ⟨rfl, hB⟩; have HA4 := Lib.hid (HA3.out.later hB); have HB4 := Lib.hid (HB3.out.trans (hB.mono HB3.out.size)); have HI4 := Lib.hid (HI3.out.later hB); have HO4 := Lib.hid (owns_keep HO3.out (fun j hj => hB.block j (HO3.out.lt j hj).2)); obtain ⟨e0, e1, e2, e3⟩ := HA4.out.cells; clear hB)
              | (go_at_call 6; refine (CR _).mono ?_; rintro e w5 ⟨a5, cap5, rfl, ho5, hB⟩; have HA5 := Lib.hid (HA4.out.later hB); have HB5 := Lib.hid (HB4.out.trans (hB.mono HB4.out.size)); have HI5 := Lib.hid (HI4.out.later hB); have HO5 := Lib.hid (owns_keep HO4.out (fun j hj => hB.block j (HO4.out.lt j hj).2)); have HY5 := Lib.hid (show w5.ownsRow w4.heap.size 3 1 (.slice a5 M cap5) ((o.drop y).take M).length (ints ((o.drop y).take M)) by rw [HLen.out.2]; exact ho5); obtain ⟨f0, f1, f2, f3⟩ := HA5.out.cells; clear hB ho5))
          all_goals (
            clear CO CR d0 d1 d2 d3 e0 e1 e2 e3 f0 f1 f2 f3 HA3 HA4 HB3 HB4 HI3 HI4 HO3 HO4
            go_wp2_with fail
            refine (CF _).mono ?_
            rintro e w6 ⟨rfl, hB6⟩
            have HB6 := Lib.hid (HB5.out.trans (hB6.mono HB5.out.size))
            have HI6 := Lib.hid (HI5.out.later hB6)
            have HO6 := Lib.hid (owns_keep HO5.out (fun j hj => hB6.block j (HO5.out.lt j hj).2))
            have HY6 := Lib.hid (owns_keep HY5.out (fun j hj => hB6.block j (HY5.out.lt j hj).2))
            have HBA := Lib.hid (show Below w6.heap.size w6 (w6.alloc (.cells #[] 3)) from (Below.refl _ w6).alloc (Nat.le_refl _) _)
            have HOA := Lib.hid (owns_keep HO6.out (fun j hj => HBA.out.block j (HO6.out.lt j hj).2))
            have hrow0 : (w6.alloc (.cells #[] 3)).ownsRow w6.heap.size 3 1 (.slice (some ⟨w6.heap.size, 0, none⟩) 0 0) ([] : List Nat).length (ints []) := World.ownsRow_made w6 #[] 0 (Nat.le_refl _) (by unfold maxLen; omega) (by simp)
            have hszA : w6.heap.size ≤ (w6.alloc (.cells #[] 3)).heap.size := HBA.out.size
            have HNl := Lib.hid (show ([] : List Nat).length + (o.take y).length ≤ 1000000 by rw [HLen.out.1]; simp; omega)
            have HNm := Lib.hid (show (([] : List Nat) ++ o.take y).length + ((o.drop y).take M).length ≤ 1000000 by rw [List.nil_append, HLen.out.1, HLen.out.2]; have := HNK.out.2; omega)
            clear hB6 CF HI5 HO5 HY5
            go_wp2_with (at_builtin; first
              | (refine step_ints (by kernel_rfl) _ _ rfl w6.heap.size (.slice (some ⟨w6.heap.size, 0, none⟩) 0 0) [] rfl hrow0 (.slice a2 y cap2) (o.take y) rfl HOA.out HNl.out hszA ?_
                 intro v8 w8 hown8 hgrow8
                 have hB8 : Below w6.heap.size w6 w8 := HBA.out.grown hgrow8 hszA (fun j ej => by cases ej; exact Nat.le_refl _)
                 have HB8 := Lib.hid hB8
                 have HY8 := Lib.hid (owns_keep HY6.out (fun j hj => hB8.block j (HY6.out.lt j hj).2))
                 have HZ8 := Lib.hid hB8.size
                 have HV8 := Lib.hid (fun j (hj : v8.ownBlock = some j) => (hown8.lt j hj).1)
                 clear hB8 hgrow8)
              | (refine step_ints (by kernel_rfl) _ _ rfl w6.heap.size v8 ([] ++ o.take y) rfl hown8 (.slice a5 M cap5) ((o.drop y).take M) rfl HY8.out HNm.out HZ8.out ?_
                 intro v9 w9 hown9 hgrow9
                 have hB9 : Below w6.heap.size w6 w9 := HB8.out.grown hgrow9 HZ8.out HV8.out
                 have HI9 := Lib.hid (HI6.out.later hB9)
                 have HB9 := Lib.hid (HB6.out.trans (hB9.mono HB6.out.size))
                 have hi9 := owns_ints hown9
                 rw [List.nil_append, HApp.out] at hi9
                 have C9 := CS _ _ _ hi9 HI9.out
                 clear hB9 hgrow9 hown9 hi9 hown8 hrow0))
            refine C9.mono ?_
            rintro e w10 ⟨rfl, hB10⟩
            have HB10 := Lib.hid (HB9.out.trans (hB10.mono HB9.out.size))
            clear hB10 C9 CS
            go_wp2
            go_ret
            exact ⟨rfl, HB10.out⟩)
set_option maxRecDepth 100000 in
/-- WHAT THE WALK GIVES, for every argument that can be read. -/
theorem contract (H : Type) (enc : TypeId × Value → H) (W : World) (base : Nat) (args : Array Value) (ds gs : List (DataW H)) (before : List MemPlace)
    (hval : ∀ (j : Nat) t v, Tryd.f3.params[j]? = some t → args[j]? = some v → Value.okWide Tryd.prog W .any base t v)
    (hW : DataW.Whole enc Tryd.prog Tryd.f3.params.toList Rows.allocPartsSpec.vars false W args.toList ds gs before)
    (hreach : (DataW.weightsEach Tryd.prog (Tryd.f3.params.toList) ds).all (· ≤ reachBytes) = true) :
    Calls Tryd.prog 3 args W fun e W' => ∃ v, e = .returned v ∧ Rows.allocPartsSpec.post enc Tryd.prog Tryd.f3 false true false false W args v W' := by
  have hW' := hW
  obtain ⟨p, q, hA0, hV, rfl, hfz, hnd⟩ := hW
  have hA : DataW.TrodAll enc Tryd.prog W 0 (fun _ => true) true Tryd.f3.params.toList args.toList ds p := hA0
  rw [Tryd.params3] at hA hval hreach
  obtain ⟨v0, v1, d0, d1, p0, p1, rfl, rfl, rfl, h0, h1⟩ := trodAll_two hA
  obtain ⟨rfl, rfl⟩ := trodVars_none hV
  obtain ⟨n1, rfl, rfl, rfl, wn1⟩ := open_int Tryd.underlying3 (hval 1 3 v1 rfl rfl) h1
  have r1 := int_range wn1
  obtain ⟨u0, b0, f0, m0, rfl, r0, rfl, sh0⟩ := ask_open (hval 0 23 v0 rfl rfl) h0 hreach (j := 0) rfl rfl
  clear hA0 hval
  simp only [List.append_nil] at hW'
  refine (walk u0 b0 f0 m0 n1 W r0 r1).mono fun e W' ⟨he, hB⟩ => ?_
  subst he
  exact ⟨_, rfl, post_of_below (pa := [] ++ ([])) (pv := []) hW' (fun _ _ _ => trodAll_mk1 (shut_bool Tryd.underlying4 _)) (fun sp hsp => trodAll_mk2 (sh0 _ _) (shut_int Tryd.underlying3 wn1)) (fun _ _ => rfl) (by simp) hB (ok_one (by kernel_rfl) rfl (okWide_bool_mk Tryd.underlying4 _))⟩

theorem reads (os : Os) {H : Type} (enc : TypeId × Value → H) : ∃ places, DataW.whole enc Tryd.prog ((laidWorld os).forCall (fun _ _ => 0) ⟨#[], #[.agg #[.string ⟨#[]⟩, .int .i64 0, .int .i64 0, .int .i64 0], .int .i64 0], []⟩).memory Tryd.f3.params.toList Rows.allocPartsSpec.vars false (#[.agg #[.string ⟨#[]⟩, .int .i64 0, .int .i64 0, .int .i64 0], .int .i64 0] : Array Value).toList 8 = some ([.agg [.lit (.string []), .lit (.int .i64 0), .lit (.int .i64 0), .lit (.int .i64 0)], .lit (.int .i64 0)], [], places) :=
  ⟨[], by kernel_rfl⟩

set_option maxRecDepth 100000 in
theorem lifted (os : Os) (started : os.Started) (H : Type) (enc : TypeId × Value → H) (F : Stop.Interp) :
    ReturnsInHanded {} Tryd.checked os 3 .any ((OpenSpec.ofChange Rows.allocPartsSpec).preRow enc Tryd.prog Tryd.f3 Rows.allocPartsRow.domain false Rows.allocPartsRow.laid) (((OpenSpec.ofChange Rows.allocPartsSpec).at F).post enc Tryd.prog Tryd.f3 false true false false) := by
  obtain ⟨places, hx⟩ := reads os enc
  refine returnsInHanded_of_row (C := Tryd.checked) (s := OpenSpec.ofChange Rows.allocPartsSpec) own started (by kernel_rfl) Tryd.func3
    (witness_row_at (enc := enc) (C := Tryd.checked) false (laidWorld os) #[.agg #[.string ⟨#[]⟩, .int .i64 0, .int .i64 0, .int .i64 0], .int .i64 0] rfl (by kernel_rfl) (by kernel_rfl) (by kernel_rfl)
      (OpenSpec.preRow_of_cond 8 hx (by kernel_rfl) (fun k hk => by cases hk) (by kernel_rfl) (laid_met os _))) ?_
  intro W base args ds gs before hval hW _ hcond hreach hL _ _
  obtain ⟨p, q, hA0, hV, hpq, hfz, hnd⟩ := id hW
  obtain ⟨rfl, _⟩ := trodVars_none hV
  rw [List.append_nil] at hreach
  exact contract H enc W base args ds [] before hval hW hreach

theorem said : Rows.AllocPartsSaid :=
  OpenClaim.holds_of_cond 3 Tryd.f3 rfl rfl rfl rfl rfl rfl rfl ⟨rfl, rfl, rfl, rfl, rfl⟩ rfl rfl rfl rfl rfl (by kernel_rfl) Tryd.func3 (by kernel_rfl)
    (of_decide_eq_true (by kernel_rfl)) (by unfold Func.isWrapper; first | (rw [if_pos (by decide +kernel)]; kernel_rfl) | (rw [if_neg (by decide +kernel)]; exact ⟨rfl, rfl⟩))
    (fun os started H enc _ F => by rw [OpenClaim.pre_eq_preRow]; exact lifted os started H enc F)

theorem plain (f : FuncId) (fn : Func) (hf : Tryd.pinned.checked.prog.funcNamed "stillage/stillagelaw10.AllocParts" = some f) (hfn : Tryd.pinned.checked.prog.funcs[f]? = some fn) :
    false = Tryd.pinned.checked.prog.looks [] ∧ ∀ (j : Nat) t, fn.params[j]? = some t → Tryd.pinned.checked.prog.wantsStandIn t = false := by
  obtain rfl : f = 3 := Option.some.inj ((show Tryd.prog.funcNamed "stillage/stillagelaw10.AllocParts" = some 3 by kernel_rfl).symm.trans hf) |>.symm
  obtain rfl : fn = Tryd.f3 := (Option.some.inj (Tryd.func3.symm.trans hfn)).symm
  refine ⟨by kernel_rfl, fun j t ht => ?_⟩
  rw [Tryd.params3] at ht
  have hm : t ∈ [23, 3] := by simpa using Array.mem_of_getElem? ht
  have hall : ([23, 3].all fun u => !Tryd.prog.wantsStandIn u) = true := by kernel_rfl
  exact (show Tryd.prog.wantsStandIn t = false by simpa using List.all_eq_true.1 hall t hm)

/-- THE CARD -/
theorem card : Rows.AllocPartsCardSaid :=
  Claim7.holds_tied_plain_at .later [] _ _ _ _ said (fun _ h => by cases h) (by kernel_rfl) (fun _ h => by cases h) allocParts_row_tie rfl ⟨rfl, rfl⟩ (by kernel_rfl) rfl plain (by kernel_rfl)


end Go.Proofs.YtknfakaklmpboaaDoor.parts

