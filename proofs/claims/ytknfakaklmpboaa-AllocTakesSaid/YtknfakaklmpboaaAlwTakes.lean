/-
  Blocks are taken one by one as the reference orders them; none is used, none is taken twice; as many are taken as are free: for every text, number of blocks and place; of at most 300 blocks.
  Conditions: none besides the row's own.
-/
import Derived.Test.YtknfakaklmpboaaAlcG
import Derived.Test.YtknfakaklmpboaaKitH
namespace Go.Proofs.Ytknfakaklmpboaa.takes
open Go.ChangeShapes Go.WideShapes Go.ChangeAt Go.RowKit Go.Shelf Go SM PL AL

/-- the pool, the list of all, the list so far, what is asked -/
structure Now (w w0 : World) (p gl : Nat) (F : Nat → Prop) (lb gb : Nat) (lc : Nat) (v : Value) (s : ByteArray) (n g k : Nat) (m : Int) (W : World) : Prop where
  pool : PoolAt w0.heap.size F p s.data.toList n g k W
  all : W.ownsRow lb 3 1 (.slice (some ⟨gl, 0, none⟩) (ord s.data.toList n g).length lc) (ord s.data.toList n g).length (ints (ord s.data.toList n g))
  got : W.ownsRow gb 3 1 v k (ints ((ord s.data.toList n g).take k))
  ask : AskAt w.heap.size s n g m W
  below : Below w.heap.size w W
  hl : gl < gb ∧ w0.heap.size ≤ gl ∧ w.heap.size < w0.heap.size ∧ gb ≤ W.heap.size
  fl : ¬ F gl
  fv : ∀ j, v.ownBlock = some j → ¬ F j
  nn : v ≠ .slice none 0 0
section
variable {w w0 W W' : World} {p gl lb gb lc n g k : Nat} {F F' : Nat → Prop} {v v' : Value} {s : ByteArray} {m : Int}
theorem Now.later (h : Now w w0 p gl F lb gb lc v s n g k m W) (hB : Below W.heap.size W W') : Now w w0 p gl F lb gb lc v s n g k m W' :=
  ⟨h.pool.later hB, owns_keep h.all (fun j hj => hB.block j (h.all.lt j hj).2), owns_keep h.got (fun j hj => hB.block j (h.got.lt j hj).2), h.ask.later hB, h.below.trans (hB.mono h.below.size), ⟨h.hl.1, h.hl.2.1, h.hl.2.2.1, Nat.le_trans h.hl.2.2.2 hB.size⟩, h.fl, h.fv, h.nn⟩
theorem Now.took (h : Now w w0 p gl F lb gb lc v s n g k m W) (hp : PoolAt w0.heap.size F' p s.data.toList n g (k + 1) W') (hs : Stir F W W') (hF : ∀ j, F' j → F j ∨ W.heap.size ≤ j) :
    PoolAt w0.heap.size F' p s.data.toList n g (k + 1) W' ∧ W'.ownsRow lb 3 1 (.slice (some ⟨gl, 0, none⟩) (ord s.data.toList n g).length lc) (ord s.data.toList n g).length (ints (ord s.data.toList n g)) ∧
      W'.ownsRow gb 3 1 v k (ints ((ord s.data.toList n g).take k)) ∧ AskAt w.heap.size s n g m W' ∧ Below w.heap.size w W' ∧ ¬ F' gl ∧ (∀ j, v.ownBlock = some j → ¬ F' j) ∧ gb ≤ W'.heap.size := by
  have hgl : gl < W.heap.size := by have := h.hl; omega
  refine ⟨hp, owns_keep h.all (fun j hj => hs.block j (h.all.lt j hj).2 ?_), owns_keep h.got (fun j hj => hs.block j (h.got.lt j hj).2 (h.fv j hj)), h.ask.stay hs ?_, h.below.trans (hs.below (fun j hj => ?_) h.below.size), fun e => ?_, fun j hj e => ?_, ?_⟩
  · obtain rfl : gl = j := by simpa [Value.ownBlock] using hj
    exact h.fl
  · intro e
    have := (h.pool.lt e).2
    have := h.hl
    omega
  · have := (h.pool.lt hj).2
    have := h.hl
    omega
  · rcases hF _ e with e | e
    · exact h.fl e
    · omega
  · rcases hF _ e with e | e
    · exact h.fv j hj e
    · have := (h.got.lt j hj).2; omega
  · have := hs.size; have := h.hl; omega
end
set_option maxRecDepth 100000 in
set_option maxHeartbeats 16000000 in
theorem walk (s : ByteArray) (b f m : Int) (w : World) (hk : AskOk s b f m) :
    Calls Try.prog 4 #[askV s b f m] w fun r w' => r = .returned (.bool true) ∧ Below w.heap.size w w' := by
  have CF := fun w => fixed10_any w
  have hu : s.size ≤ 140737488355328 := by have := hk.size; omega
  have hb := hk.blocks
  have hf := hk.place
  unfold IntOk at hb hf
  unfold askV
  obtain ⟨w0, hw0⟩ : ∃ w0, w.alloc (.cells #[.string s, .int .i64 b, .int .i64 f, .int .i64 m] 23) = w0 := ⟨_, rfl⟩
  have HA := Lib.hid (show AskAt w.heap.size s b f m w0 by rw [← hw0]; exact AskAt.new _ _ _ _ _)
  have HB0 := Lib.hid (show Below w.heap.size w w0 by rw [← hw0]; exact (Below.refl _ w).alloc (Nat.le_refl _) _)
  have HZ0 := Lib.hid (show w.heap.size < w0.heap.size by rw [← hw0, World.size_alloc]; omega)
  obtain ⟨c0, c1, c2, c3⟩ := HA.out.cells
  clear hk
  cases h3 : badA b f with
  | true =>
    have CN := fun w => anew_no s b f h3 w
    have CP := fun w => rpick_bad s b f 0 (.inl h3) w
    clear h3
    go_enter Try.func4, Try.ntmps4
    go_wp2_with fail
    refine (CN _).mono ?_
    rintro e w4 ⟨rfl, rfl⟩
    go_wp2_with fail
    refine (CP _).mono ?_
    rintro e w4 ⟨rfl, rfl⟩
    go_wp2_with fail
    refine (CF _).mono ?_
    rintro e w5 ⟨rfl, hB5⟩
    have HB5 := Lib.hid (HB0.out.trans (hB5.mono HB0.out.size))
    clear hB5
    go_wp2
    go_ret
    exact ⟨rfl, HB5.out⟩
  | false =>
    obtain ⟨n, g, rfl, rfl, k1, k2, k3, k4⟩ := badA_no h3
    have hl := length_frees s.data.toList n
    rw [← length_ord _ _ g] at hl
    have CN := fun w => anew_yes s n g hu k1 k2 k3 k4 w
    have CO := fun w => order_any s n g hu k2 k4 w
    by_cases h1 : (300 : Int) < (n : Int)
    · clear k1 k2 k3 k4 h3 hl CO
      go_enter Try.func4, Try.ntmps4
      go_wp2_with fail
      refine (CN _).mono ?_
      rintro e w1 ⟨p, rfl, -, hB1⟩
      have HB1 := Lib.hid (HB0.out.trans (hB1.mono HB0.out.size))
      obtain ⟨d0, d1, d2, d3⟩ := (HA.out.later hB1).cells
      clear hB1 CN c0 c1 c2 c3
      go_wp2_with fail
      refine (CF _).mono ?_
      rintro e w5 ⟨rfl, hB5⟩
      have HB5 := Lib.hid (HB1.out.trans (hB5.mono HB1.out.size))
      clear hB5
      go_wp2
      go_ret
      exact ⟨rfl, HB5.out⟩
    · have HV := Lib.hid (And.intro (And.intro k1 k2) (And.intro k3 k4))
      have hn3 : (n : Int) ≤ 300 := by omega
      have hg3 : (g : Int) ≤ 300 := by omega
      have HLn := Lib.hid hl
      clear k1 k2 k3 k4 h3 hl hb hf
      go_enter Try.func4, Try.ntmps4
      go_wp2_with fail
      refine (CN _).mono ?_
      rintro e w1 ⟨p, rfl, ⟨F, hp⟩, hB1⟩
      have HP1 := Lib.hid hp
      have HA1 := Lib.hid (HA.out.later hB1)
      have HB1 := Lib.hid (HB0.out.trans (hB1.mono HB0.out.size))
      have HZ1 := Lib.hid hB1.size
      obtain ⟨d0, d1, d2, d3⟩ := HA1.out.cells
      clear hB1 hp CN c0 c1 c2 c3 HA HB0
      go_wp2_with fail
      refine (CO _).mono ?_
      rintro e w2 ⟨lv, rfl, ho2, hn2, hB2⟩
      obtain ⟨gl, lc, rfl, hgl1, hgl2, hlc, hlm, -⟩ := row_cells ho2 hn2
      have hrow0 : (w2.alloc (.cells #[] 3)).ownsRow w2.heap.size 3 1 (.slice (some ⟨w2.heap.size, 0, none⟩) 0 0) 0 [] := World.ownsRow_made w2 #[] 0 (Nat.le_refl _) (by unfold maxLen; omega) (by simp)
      have hBA : Below w2.heap.size w2 (w2.alloc (.cells #[] 3)) := (Below.refl _ w2).alloc (Nat.le_refl _) _
      have hBB : Below w1.heap.size w1 (w2.alloc (.cells #[] 3)) := hB2.trans (hBA.mono hB2.size)
      have HNow := Lib.hid (show Now w w0 p gl F w1.heap.size w2.heap.size lc (.slice (some ⟨w2.heap.size, 0, none⟩) 0 0) s n g 0 m (w2.alloc (.cells #[] 3)) from
        ⟨HP1.out.later hBB, owns_keep ho2 (fun j hj => hBA.block j (ho2.lt j hj).2), hrow0, HA1.out.later hBB, HB1.out.trans (hBB.mono HB1.out.size), ⟨hgl2, Nat.le_trans HZ1.out hgl1, HZ0.out, by simp⟩,
          fun e => by have := (HP1.out.lt e).1; omega, fun j hj e => by
            have e1 : w2.heap.size = j := by simpa [Value.ownBlock] using hj
            have := (HP1.out.lt e).1
            have := hB2.size
            omega, by simp⟩)
      have HGl := Lib.hid (And.intro hlc hgl2)
      have hlci : ((ord s.data.toList n g).length : Int) ≤ (lc : Int) := by omega
      obtain ⟨L, hL⟩ : ∃ L, (ord s.data.toList n g).length = L := ⟨_, rfl⟩
      have HL := Lib.hid hL
      rw [hL] at hlci ⊢
      have hL3 : (L : Int) ≤ 300 := by have := HLn.out; omega
      clear ho2 hn2 hB2 hgl1 hgl2 hlc hlm hrow0 hBA hBB CO d0 d1 d2 d3 HP1 HA1 HB1 HZ1 hL
      go_wp2_with fail
      go_loopw [9, 10] (fun v i wr => ∃ (k : Nat) (F : Nat → Prop), k ≤ L ∧ i = .int .i64 k ∧ Hid (Now w w0 p gl F w1.heap.size w2.heap.size lc v s n g k m wr)) (fun _ i _ => L + 1 - (intOf i).toNat)
      case atStart => exact ⟨0, F, Nat.zero_le _, rfl, HNow⟩
      case round =>
        clear HNow
        obtain ⟨k, F, hkl, rfl, HW⟩ := hrel
        have hki : (k : Int) ≤ (L : Int) := by omega
        have hlk : ((ord s.data.toList n g).take k).length = k := by rw [List.length_take, HL.out]; omega
        have CS := of_any _ (intsN ((ord s.data.toList n g).take k)) (by rw [length_intsN, hlk]; omega) wr (owns_ints (l := (ord s.data.toList n g).take k) (by rw [hlk]; exact HW.out.got))
        rw [ofV_nats (fun m hm => ord_small HV.out.1.2 hm)] at CS
        have hTs : (bs (ofL (intsN ((ord s.data.toList n g).take k)))).size ≤ 140737488355328 := by
          rw [bs_size, length_ofL]
          have := lenI_le (okI_nats (l := (ord s.data.toList n g).take k) (fun m hm => ord_small HV.out.1.2 hm))
          omega
        obtain ⟨gv, cv, rfl, hgv1, hgv2, hcv, hcvm, -⟩ := row_cells HW.out.got HW.out.nn
        clear hcvm hgv2
        obtain ⟨T, hT⟩ : ∃ T, bs (ofL (intsN ((ord s.data.toList n g).take k))) = T := ⟨_, rfl⟩
        rw [hT] at CS hTs
        have HT := Lib.hid hT
        obtain ⟨Z, hZ⟩ : ∃ Z : Nat, L - k = Z := ⟨_, rfl⟩
        have hz : (L : Int) - (k : Int) = (Z : Int) := by omega
        have HZ := Lib.hid hZ
        have qT : (T.toList != T.toList) = false := by simp
        have qZ : ((Z : Int) != (Z : Int)) = false := by simp
        clear hT hZ hlk
        go_wp2_with fail
        refine CS.mono ?_
        rintro e w3 ⟨rfl, hB3⟩
        have HWd := Lib.hid (HW.out.later (hB3.drew))
        have CL := left_any HWd.out.pool
        rw [HL.out, HZ.out] at CL
        have CK := taken_any HWd.out.pool
        rw [HT.out] at CK
        clear hB3 CS
        rcases Nat.eq_zero_or_pos k with h0 | h0
        · subst h0
          obtain rfl : L = Z := by omega
          have hv1 : IntKind.i64.wrap (L : Int) = (L : Int) := wrapI _ (by omega) (by omega)
          have hv2 : IntKind.i64.wrap ((L : Int) - 0) = (L : Int) := by rw [Int.sub_zero]; exact hv1
          have CX := fun W (h : Now w w0 p gl F w1.heap.size w2.heap.size lc (.slice (some ⟨gv, 0, none⟩) 0 cv) s n g 0 m W) => pnext_any h.pool
          rw [placeAt_zero] at CX
          have d2 := HWd.out.ask.cells.2.2.1
          have qG : ((g : Int) != (g : Int)) = false := by simp
          go_wp2_with fail
          refine wp_region_held_drew (S := fun w' => w'.cell? ⟨w.heap.size, 2, none⟩ = some (.int .i64 g)) (by kernel_rfl) d2 (fun hHeld => ?_)
          refine take_oneH 79 (i := 0) (v := .int .i64 0) rfl rfl (by kernel_rfl) (by kernel_rfl) (by kernel_rfl) (fun _ _ _ h => h) (Or.inl ⟨by kernel_rfl, fun w hSw => by (go_simp)⟩) (by assumption) ?_
          simp only [Act.put, List.setIfInBounds_toArray, List.set_cons_zero, List.set_cons_succ]
          refine take_oneH 80 (i := 1) (v := .bool false) rfl rfl (by kernel_rfl) (by kernel_rfl) (by kernel_rfl) (fun _ _ _ h => h) (Or.inl ⟨by kernel_rfl, fun w hSw => by (go_simp)⟩) (by assumption) ?_
          simp only [Act.put, List.setIfInBounds_toArray, List.set_cons_zero, List.set_cons_succ]
          refine take_oneH 81 (i := 2) (v := .bool false) rfl rfl (by kernel_rfl) (by kernel_rfl) (by kernel_rfl) (fun _ _ _ h => h) (Or.inl ⟨by kernel_rfl, fun w hSw => by (go_simp)⟩) (by assumption) ?_
          simp only [Act.put, List.setIfInBounds_toArray, List.set_cons_zero, List.set_cons_succ]
          refine take_oneH 82 (i := 3) (v := .pointer (some ⟨p, 0, none⟩)) rfl rfl (by kernel_rfl) (by kernel_rfl) (by kernel_rfl) (fun _ _ _ h => h) (Or.inl ⟨by kernel_rfl, fun w hSw => by (go_simp)⟩) (by assumption) ?_
          simp only [Act.put, List.setIfInBounds_toArray, List.set_cons_zero, List.set_cons_succ]
          refine take_oneH 84 (i := 5) (v := .slice (some ⟨gl, 0, none⟩) L lc) rfl rfl (by kernel_rfl) (by kernel_rfl) (by kernel_rfl) (fun _ _ _ h => h) (Or.inl ⟨by kernel_rfl, fun w hSw => by (go_simp)⟩) (by assumption) ?_
          simp only [Act.put, List.setIfInBounds_toArray, List.set_cons_zero, List.set_cons_succ]
          refine take_oneH 85 (i := 6) (v := .int .i64 L) rfl rfl (by kernel_rfl) (by kernel_rfl) (by kernel_rfl) (fun _ _ _ h => h) (Or.inl ⟨by kernel_rfl, fun w hSw => by (go_simp)⟩) (by assumption) ?_
          simp only [Act.put, List.setIfInBounds_toArray, List.set_cons_zero, List.set_cons_succ]
          refine take_oneH 86 (i := 7) (v := .int .i64 0) rfl rfl (by kernel_rfl) (by kernel_rfl) (by kernel_rfl) (fun _ _ _ h => h) (Or.inl ⟨by kernel_rfl, fun w hSw => by (go_simp)⟩) (by assumption) ?_
          simp only [Act.put, List.setIfInBounds_toArray, List.set_cons_zero, List.set_cons_succ]
          refine take_oneH 87 (i := 8) (v := .int .i64 L) rfl rfl (by kernel_rfl) (by kernel_rfl) (by kernel_rfl) (fun _ _ _ h => h) (Or.inl ⟨by kernel_rfl, fun w hSw => by (go_simp)⟩) (by assumption) ?_
          simp only [Act.put, List.setIfInBounds_toArray, List.set_cons_zero, List.set_cons_succ]
          refine wpAnyH_ready (rs := [4]) (by kernel_rfl) (by simp) ?_
          refine AllReadyH.cons rfl (fun K hK => ?_) (AllReadyH.nil)
          go_simp
          go_at_call 13
          refine (CL).mono ?_
          rintro e w' ⟨rfl, rfl⟩
          go_wp2_with fail
          refine hK.out _ _ d2 (fun hHeld => ?_)
          clear hK K
          try simp only [Act.put, List.setIfInBounds_toArray, List.set_cons_zero, List.set_cons_succ]
          refine take_oneH 88 (i := 9) (v := .bool false) rfl rfl (by kernel_rfl) (by kernel_rfl) (by kernel_rfl) (fun _ _ _ h => h) (Or.inl ⟨by kernel_rfl, fun w hSw => by (go_simp)⟩) (by assumption) ?_
          simp only [Act.put, List.setIfInBounds_toArray, List.set_cons_zero, List.set_cons_succ]
          refine take_oneH 89 (i := 10) (v := .bool false) rfl rfl (by kernel_rfl) (by kernel_rfl) (by kernel_rfl) (fun _ _ _ h => h) (Or.inl ⟨by kernel_rfl, fun w hSw => by (go_simp)⟩) (by assumption) ?_
          simp only [Act.put, List.setIfInBounds_toArray, List.set_cons_zero, List.set_cons_succ]
          refine take_oneH 90 (i := 11) (v := .bool false) rfl rfl (by kernel_rfl) (by kernel_rfl) (by kernel_rfl) (fun _ _ _ h => h) (Or.inl ⟨by kernel_rfl, fun w hSw => by (go_simp)⟩) (by assumption) ?_
          simp only [Act.put, List.setIfInBounds_toArray, List.set_cons_zero, List.set_cons_succ]
          refine take_oneH 91 (i := 12) (v := .pointer (some ⟨p, 0, none⟩)) rfl rfl (by kernel_rfl) (by kernel_rfl) (by kernel_rfl) (fun _ _ _ h => h) (Or.inl ⟨by kernel_rfl, fun w hSw => by (go_simp)⟩) (by assumption) ?_
          simp only [Act.put, List.setIfInBounds_toArray, List.set_cons_zero, List.set_cons_succ]
          refine take_oneH 93 (i := 14) (v := .string T) rfl rfl (by kernel_rfl) (by kernel_rfl) (by kernel_rfl) (fun _ _ _ h => h) (Or.inl ⟨by kernel_rfl, fun w hSw => by (go_simp)⟩) (by assumption) ?_
          simp only [Act.put, List.setIfInBounds_toArray, List.set_cons_zero, List.set_cons_succ]
          refine wpAnyH_ready (rs := [13]) (by kernel_rfl) (by simp) ?_
          refine AllReadyH.cons rfl (fun K hK => ?_) (AllReadyH.nil)
          go_simp
          go_at_call 14
          refine (CK).mono ?_
          rintro e w5 ⟨rfl, hB5⟩
          have H5 := Lib.hid (HWd.out.later hB5)
          have e2 := H5.out.ask.cells.2.2.1
          clear hB5
          go_wp2_with fail
          refine hK.out _ _ e2 (fun hHeld => ?_)
          clear hK K
          try simp only [Act.put, List.setIfInBounds_toArray, List.set_cons_zero, List.set_cons_succ]
          refine take_oneH 94 (i := 15) (v := .bool false) rfl rfl (by kernel_rfl) (by kernel_rfl) (by kernel_rfl) (fun _ _ _ h => h) (Or.inl ⟨by kernel_rfl, fun w hSw => by (go_simp)⟩) (by assumption) ?_
          simp only [Act.put, List.setIfInBounds_toArray, List.set_cons_zero, List.set_cons_succ]
          refine take_oneH 95 (i := 16) (v := .bool false) rfl rfl (by kernel_rfl) (by kernel_rfl) (by kernel_rfl) (fun _ _ _ h => h) (Or.inl ⟨by kernel_rfl, fun w hSw => by (go_simp)⟩) (by assumption) ?_
          simp only [Act.put, List.setIfInBounds_toArray, List.set_cons_zero, List.set_cons_succ]
          refine take_oneH 96 (i := 17) (v := .bool false) rfl rfl (by kernel_rfl) (by kernel_rfl) (by kernel_rfl) (fun _ _ _ h => h) (Or.inl ⟨by kernel_rfl, fun w hSw => by (go_simp)⟩) (by assumption) ?_
          simp only [Act.put, List.setIfInBounds_toArray, List.set_cons_zero, List.set_cons_succ]
          refine take_oneH 97 (i := 18) (v := .int .i64 0) rfl rfl (by kernel_rfl) (by kernel_rfl) (by kernel_rfl) (fun _ _ _ h => h) (Or.inl ⟨by kernel_rfl, fun w hSw => by (go_simp)⟩) (by assumption) ?_
          simp only [Act.put, List.setIfInBounds_toArray, List.set_cons_zero, List.set_cons_succ]
          refine take_oneH 98 (i := 19) (v := .bool true) rfl rfl (by kernel_rfl) (by kernel_rfl) (by kernel_rfl) (fun _ _ _ h => h) (Or.inl ⟨by kernel_rfl, fun w hSw => by (go_simp)⟩) (by assumption) ?_
          simp only [Act.put, List.setIfInBounds_toArray, List.set_cons_zero, List.set_cons_succ]
          refine take_oneH 99 (i := 20) (v := .bool true) rfl rfl (by kernel_rfl) (by kernel_rfl) (by kernel_rfl) (fun _ _ _ h => h) (Or.inl ⟨by kernel_rfl, fun w hSw => by (go_simp)⟩) (by assumption) ?_
          simp only [Act.put, List.setIfInBounds_toArray, List.set_cons_zero, List.set_cons_succ]
          refine take_oneH 100 (i := 21) (v := .pointer (some ⟨p, 0, none⟩)) rfl rfl (by kernel_rfl) (by kernel_rfl) (by kernel_rfl) (fun _ _ _ h => h) (Or.inl ⟨by kernel_rfl, fun w hSw => by (go_simp)⟩) (by assumption) ?_
          simp only [Act.put, List.setIfInBounds_toArray, List.set_cons_zero, List.set_cons_succ]
          refine take_oneH 102 (i := 23) (v := .pointer (some ⟨w.heap.size, 2, none⟩)) rfl rfl (by kernel_rfl) (by kernel_rfl) (by kernel_rfl) (fun _ _ _ h => h) (Or.inl ⟨by kernel_rfl, fun w hSw => by (go_simp)⟩) (by assumption) ?_
          simp only [Act.put, List.setIfInBounds_toArray, List.set_cons_zero, List.set_cons_succ]
          refine take_oneH 103 (i := 24) (v := .int .i64 g) rfl rfl (by kernel_rfl) (by kernel_rfl) (by kernel_rfl) (fun _ _ _ h => h) (Or.inl ⟨by kernel_rfl, fun w hSw => by (go_simp)⟩) (by assumption) ?_
          simp only [Act.put, List.setIfInBounds_toArray, List.set_cons_zero, List.set_cons_succ]
          refine wpAnyH_ready (rs := [22]) (by kernel_rfl) (by simp) ?_
          refine AllReadyH.cons rfl (fun K hK => ?_) (AllReadyH.nil)
          go_simp
          go_at_call 15
          refine (CX _ H5.out).mono ?_
          rintro e w' ⟨rfl, rfl⟩
          go_wp2_with fail
          refine hK.out _ _ e2 (fun hHeld => ?_)
          clear hK K
          try simp only [Act.put, List.setIfInBounds_toArray, List.set_cons_zero, List.set_cons_succ]
          refine take_oneH 104 (i := 25) (v := .bool false) rfl rfl (by kernel_rfl) (by kernel_rfl) (by kernel_rfl) (fun _ _ _ h => h) (Or.inl ⟨by kernel_rfl, fun w hSw => by (go_simp)⟩) (by assumption) ?_
          simp only [Act.put, List.setIfInBounds_toArray, List.set_cons_zero, List.set_cons_succ]
          refine take_oneH 105 (i := 26) (v := .bool false) rfl rfl (by kernel_rfl) (by kernel_rfl) (by kernel_rfl) (fun _ _ _ h => h) (Or.inl ⟨by kernel_rfl, fun w hSw => by (go_simp)⟩) (by assumption) ?_
          simp only [Act.put, List.setIfInBounds_toArray, List.set_cons_zero, List.set_cons_succ]
          refine take_oneH 106 (i := 27) (v := .bool false) rfl rfl (by kernel_rfl) (by kernel_rfl) (by kernel_rfl) (fun _ _ _ h => h) (Or.inl ⟨by kernel_rfl, fun w hSw => by (go_simp)⟩) (by assumption) ?_
          simp only [Act.put, List.setIfInBounds_toArray, List.set_cons_zero, List.set_cons_succ]
          refine take_oneH 107 (i := 28) (v := .bool false) rfl rfl (by kernel_rfl) (by kernel_rfl) (by kernel_rfl) (fun _ _ _ h => h) (Or.inl ⟨by kernel_rfl, fun w hSw => by (go_simp)⟩) (by assumption) ?_
          simp only [Act.put, List.setIfInBounds_toArray, List.set_cons_zero, List.set_cons_succ]
          refine take_oneH 108 (i := 29) (v := .int .i64 0) rfl rfl (by kernel_rfl) (by kernel_rfl) (by kernel_rfl) (fun _ _ _ h => h) (Or.inl ⟨by kernel_rfl, fun w hSw => by (go_simp)⟩) (by assumption) ?_
          simp only [Act.put, List.setIfInBounds_toArray, List.set_cons_zero, List.set_cons_succ]
          refine take_oneH 109 (i := 30) (v := .bool false) rfl rfl (by kernel_rfl) (by kernel_rfl) (by kernel_rfl) (fun _ _ _ h => h) (Or.inl ⟨by kernel_rfl, fun w hSw => by (go_simp)⟩) (by assumption) ?_
          simp only [Act.put, List.setIfInBounds_toArray, List.set_cons_zero, List.set_cons_succ]
          refine take_oneH 110 (i := 31) (v := .bool false) rfl rfl (by kernel_rfl) (by kernel_rfl) (by kernel_rfl) (fun _ _ _ h => h) (Or.inl ⟨by kernel_rfl, fun w hSw => by (go_simp)⟩) (by assumption) ?_
          simp only [Act.put, List.setIfInBounds_toArray, List.set_cons_zero, List.set_cons_succ]
          refine take_oneH 111 (i := 32) (v := undef) rfl rfl (by kernel_rfl) (by kernel_rfl) (by kernel_rfl) (fun _ _ _ h => h) (Or.inr ⟨by kernel_rfl, rfl⟩) (by assumption) ?_
          simp only [Act.put, List.setIfInBounds_toArray, List.set_cons_zero, List.set_cons_succ]
          refine take_oneH 112 (i := 33) (v := undef) rfl rfl (by kernel_rfl) (by kernel_rfl) (by kernel_rfl) (fun _ _ _ h => h) (Or.inr ⟨by kernel_rfl, rfl⟩) (by assumption) ?_
          simp only [Act.put, List.setIfInBounds_toArray, List.set_cons_zero, List.set_cons_succ]
          refine take_oneH 113 (i := 34) (v := undef) rfl rfl (by kernel_rfl) (by kernel_rfl) (by kernel_rfl) (fun _ _ _ h => h) (Or.inr ⟨by kernel_rfl, rfl⟩) (by assumption) ?_
          simp only [Act.put, List.setIfInBounds_toArray, List.set_cons_zero, List.set_cons_succ]
          refine take_oneH 114 (i := 35) (v := undef) rfl rfl (by kernel_rfl) (by kernel_rfl) (by kernel_rfl) (fun _ _ _ h => h) (Or.inr ⟨by kernel_rfl, rfl⟩) (by assumption) ?_
          simp only [Act.put, List.setIfInBounds_toArray, List.set_cons_zero, List.set_cons_succ]
          refine take_oneH 115 (i := 36) (v := undef) rfl rfl (by kernel_rfl) (by kernel_rfl) (by kernel_rfl) (fun _ _ _ h => h) (Or.inr ⟨by kernel_rfl, rfl⟩) (by assumption) ?_
          simp only [Act.put, List.setIfInBounds_toArray, List.set_cons_zero, List.set_cons_succ]
          refine take_oneH 116 (i := 37) (v := .bool false) rfl rfl (by kernel_rfl) (by kernel_rfl) (by kernel_rfl) (fun _ _ _ h => h) (Or.inl ⟨by kernel_rfl, fun w hSw => by (go_simp)⟩) (by assumption) ?_
          simp only [Act.put, List.setIfInBounds_toArray, List.set_cons_zero, List.set_cons_succ]
          refine take_oneH 117 (i := 38) (v := .bool false) rfl rfl (by kernel_rfl) (by kernel_rfl) (by kernel_rfl) (fun _ _ _ h => h) (Or.inl ⟨by kernel_rfl, fun w hSw => by (go_simp)⟩) (by assumption) ?_
          simp only [Act.put, List.setIfInBounds_toArray, List.set_cons_zero, List.set_cons_succ]
          refine take_oneH 118 (i := 39) (v := undef) rfl rfl (by kernel_rfl) (by kernel_rfl) (by kernel_rfl) (fun _ _ _ h => h) (Or.inr ⟨by kernel_rfl, rfl⟩) (by assumption) ?_
          simp only [Act.put, List.setIfInBounds_toArray, List.set_cons_zero, List.set_cons_succ]
          refine take_oneH 119 (i := 40) (v := undef) rfl rfl (by kernel_rfl) (by kernel_rfl) (by kernel_rfl) (fun _ _ _ h => h) (Or.inr ⟨by kernel_rfl, rfl⟩) (by assumption) ?_
          simp only [Act.put, List.setIfInBounds_toArray, List.set_cons_zero, List.set_cons_succ]
          refine take_oneH 120 (i := 41) (v := undef) rfl rfl (by kernel_rfl) (by kernel_rfl) (by kernel_rfl) (fun _ _ _ h => h) (Or.inr ⟨by kernel_rfl, rfl⟩) (by assumption) ?_
          simp only [Act.put, List.setIfInBounds_toArray, List.set_cons_zero, List.set_cons_succ]
          refine take_oneH 121 (i := 42) (v := undef) rfl rfl (by kernel_rfl) (by kernel_rfl) (by kernel_rfl) (fun _ _ _ h => h) (Or.inr ⟨by kernel_rfl, rfl⟩) (by assumption) ?_
          simp only [Act.put, List.setIfInBounds_toArray, List.set_cons_zero, List.set_cons_succ]
          refine take_oneH 122 (i := 43) (v := undef) rfl rfl (by kernel_rfl) (by kernel_rfl) (by kernel_rfl) (fun _ _ _ h => h) (Or.inr ⟨by kernel_rfl, rfl⟩) (by assumption) ?_
          simp only [Act.put, List.setIfInBounds_toArray, List.set_cons_zero, List.set_cons_succ]
          refine take_oneH 123 (i := 44) (v := undef) rfl rfl (by kernel_rfl) (by kernel_rfl) (by kernel_rfl) (fun _ _ _ h => h) (Or.inr ⟨by kernel_rfl, rfl⟩) (by assumption) ?_
          simp only [Act.put, List.setIfInBounds_toArray, List.set_cons_zero, List.set_cons_succ]
          refine take_oneH 124 (i := 45) (v := undef) rfl rfl (by kernel_rfl) (by kernel_rfl) (by kernel_rfl) (fun _ _ _ h => h) (Or.inr ⟨by kernel_rfl, rfl⟩) (by assumption) ?_
          simp only [Act.put, List.setIfInBounds_toArray, List.set_cons_zero, List.set_cons_succ]
          refine take_oneH 125 (i := 46) (v := undef) rfl rfl (by kernel_rfl) (by kernel_rfl) (by kernel_rfl) (fun _ _ _ h => h) (Or.inr ⟨by kernel_rfl, rfl⟩) (by assumption) ?_
          simp only [Act.put, List.setIfInBounds_toArray, List.set_cons_zero, List.set_cons_succ]
          refine take_oneH 126 (i := 47) (v := undef) rfl rfl (by kernel_rfl) (by kernel_rfl) (by kernel_rfl) (fun _ _ _ h => h) (Or.inr ⟨by kernel_rfl, rfl⟩) (by assumption) ?_
          simp only [Act.put, List.setIfInBounds_toArray, List.set_cons_zero, List.set_cons_succ]
          refine take_oneH 127 (i := 48) (v := .bool false) rfl rfl (by kernel_rfl) (by kernel_rfl) (by kernel_rfl) (fun _ _ _ h => h) (Or.inl ⟨by kernel_rfl, fun w hSw => by (go_simp)⟩) (by assumption) ?_
          simp only [Act.put, List.setIfInBounds_toArray, List.set_cons_zero, List.set_cons_succ]
          refine take_oneH 128 (i := 49) (v := .bool false) rfl rfl (by kernel_rfl) (by kernel_rfl) (by kernel_rfl) (fun _ _ _ h => h) (Or.inl ⟨by kernel_rfl, fun w hSw => by (go_simp)⟩) (by assumption) ?_
          simp only [Act.put, List.setIfInBounds_toArray, List.set_cons_zero, List.set_cons_succ]
          refine wpAnyH_done (by kernel_rfl) ?_ _
          clear CL CK CX d2 e2 hv1 hv2
          by_cases hlast : 0 = L
          · have CT := take_no H5.out.pool (by rw [HL.out]; exact hlast)
            subst hlast
            have qL : ((0 : Int) == (0 : Int)) = true := by simp
            go_wp2_with fail
            refine CT.mono ?_
            rintro e w6 ⟨rfl, rfl⟩
            go_wp2_with fail
            refine (CF _).mono ?_
            rintro e w7 ⟨rfl, hB7⟩
            have HB7 := Lib.hid (H5.out.below.trans (hB7.mono H5.out.below.size))
            clear hB7
            go_wp2
            go_ret
            exact ⟨rfl, HB7.out⟩
          · have hkL : 0 < (ord s.data.toList n g).length := by rw [HL.out]; omega
            obtain ⟨x, hx⟩ : ∃ x : Nat, (ord s.data.toList n g)[0]'hkL = x := ⟨_, rfl⟩
            have CT := take_yes H5.out.pool hkL
            rw [hx] at CT
            have hin := ord_in hkL
            rw [hx] at hin
            have hxn : ((x : Nat) : Int) < (n : Int) := by omega
            have hx1 : (1 : Int) ≤ (x : Int) := by omega
            have HX := Lib.hid (show ints ((ord s.data.toList n g).take (0 + 1)) = ints ((ord s.data.toList n g).take 0) ++ [.int .i64 (x : Int)] by
              rw [← hx, List.take_succ_eq_append_getElem hkL]; unfold ints; rw [List.map_append]; rfl)
            have HC := Lib.hid (fun (W : World) (h : W.ownsRow w1.heap.size 3 1 (.slice (some ⟨gl, 0, none⟩) (ord s.data.toList n g).length lc) (ord s.data.toList n g).length (ints (ord s.data.toList n g))) => show W.cell? ⟨gl, 0, none⟩ = some (.int .i64 (x : Int)) by
              rw [h.cellAt (g := gl) (cap := lc) 0 (by omega)]
              simp [ints, hkL, hx])
            have HBu := Lib.hid (show bitI s.data.toList (x : Int) = false by rw [bitI_n]; exact hin.2.2)
            have HBt := Lib.hid (show bitI T.data.toList (x : Int) = false by
              rw [← HT.out, bs_list, bitI_n, bit_ofL (okI_nats (fun m hm => ord_small HV.out.1.2 hm))]
              simp only [decide_eq_false_iff_not, mem_intsN]
              intro hm
              have hd := (mem_drop_iff (nodup_ord s.data.toList n g) 0 x).1 (by rw [List.drop_eq_getElem_cons hkL, hx]; exact List.mem_cons_self)
              exact hd.2 hm)
            have qX : ((x : Int) != (x : Int)) = false := by simp
            have hkL2 : ((0 : Nat) : Int) < (L : Int) := by rw [HL.out] at hkL; omega
            have hkL3 : (((0 : Nat) : Int) == (L : Int)) = false := by rw [HL.out] at hkL; simp; omega
            have hx4 : (x : Int) ≤ 4096 := by omega
            clear hx hin hlast hkL
            go_wp2_with fail
            refine CT.mono ?_
            rintro e w6 ⟨rfl, F', hp6, hs6, hF6⟩
            have HTk := Lib.hid (H5.out.took hp6 hs6 hF6)
            obtain ⟨d0, d1, d2, d3⟩ := HTk.out.2.2.2.1.cells
            have cx := HC.out _ HTk.out.2.1
            have hrow := HTk.out.2.2.1
            have hgb6 := HTk.out.2.2.2.2.2.2.2
            have hl5 := H5.out.hl
            obtain ⟨i0, hi, hz0, hz1, hz2⟩ := info_parts info3
            have hk4 : 0 ≤ 4096 := by omega
            have CHs := fun (U : ByteArray) (h : U = s ∨ U = T) (w : World) => show Calls Try.prog 17 #[.string U, .int .i64 (x : Int)] w (fun e w' => e = .returned (.bool false) ∧ w = w') from by
              rcases h with e | e
              · rw [e, ← HBu.out]; exact has_any s (x : Int) w hu (by omega) (by omega)
              · rw [e, ← HBt.out]; exact has_any T (x : Int) w hTs (by omega) (by omega)
            clear hp6 hs6 hF6 CT
            go_wp2_with (first
              | (go_at_call 17; refine (CHs _ (by first | exact .inl rfl | exact .inr rfl) _).mono ?_; rintro e w' ⟨rfl, rfl⟩)
              | (at_builtin; refine wpList_append_own_at _ rfl _ _ 24 rfl w2.heap.size 3 i0 (.int .i64 0) 1 8 Try.underlying24 hi hz0 hz1 hz2 rfl (by decide) (.slice (some ⟨gv, 0, none⟩) 0 cv) 0 _ rfl (hrow.alloc _) ⟨w6.heap.size, 0, none⟩ 1 1 [.int .i64 (x : Int)] rfl rfl (cell_one_new _ _ _) (by simp [Value.oneCell']) (by unfold maxLen; omega) (by omega) (by rw [World.size_alloc]; omega) ?_; intro v' w7 hown' hgrow hnl hat))
            have hgvb : w2.heap.size ≤ gv := (hrow.lt gv rfl).1
            have hST : Stir (fun j => (Value.slice (some ⟨gv, 0, none⟩) 0 cv).ownBlock = some j) w6 w7 := by
              refine ⟨hgrow.os, hgrow.tape, hgrow.output, Nat.le_trans (by simp) hgrow.size, fun j hj hn => ?_⟩
              rw [hgrow.block j (by rw [World.size_alloc]; omega) (fun e => hn e.symm)]
              exact Below.heap_alloc w6 _ j hj
            have HNx := Lib.hid (show Now w w0 p gl F' w1.heap.size w2.heap.size lc v' s n g (0 + 1) m w7 from
              ⟨HTk.out.1.stay hST (fun j hj e => HTk.out.2.2.2.2.2.2.1 j e hj), owns_keep HTk.out.2.1 (fun j hj => hST.block j (HTk.out.2.1.lt j hj).2 (fun e => by
                  have e1 : gl = j := by simpa [Value.ownBlock] using hj
                  have e2 : gv = j := by simpa [Value.ownBlock] using e
                  omega)), by rw [HX.out]; exact hown', HTk.out.2.2.2.1.stay hST (fun e => by
                  have e2 : gv = w.heap.size := by simpa [Value.ownBlock] using e
                  omega), HTk.out.2.2.2.2.1.trans (hST.below (fun j e => by
                  have e2 : gv = j := by simpa [Value.ownBlock] using e
                  omega) HTk.out.2.2.2.2.1.size), ⟨hl5.1, hl5.2.1, hl5.2.2.1, Nat.le_trans hgb6 hST.size⟩, HTk.out.2.2.2.2.2.1, fun j hj e => by
                rcases hat with h | h
                · exact HTk.out.2.2.2.2.2.2.1 j (h.symm.trans hj) e
                · have h5 : j = (w6.alloc (.cells #[.int .i64 (x : Int)] 3)).heap.size := by simpa using hj.symm.trans h
                  have := (HTk.out.1.lt e).1
                  rw [World.size_alloc] at h5
                  omega, fun e => by have := (hnl.1 e).2; cases this⟩)
            clear hown' hgrow hnl hat hST hrow d0 d1 d2 d3 cx
            go_wp2
            go_roundw
            case rel => exact ⟨0 + 1, F', by omega, by go_num, HNx⟩
            case measure => first | (simp [intOf]; omega) | simp [intOf]
        · obtain ⟨j, hj⟩ : ∃ j, k = j + 1 := ⟨k - 1, by omega⟩
          have hjL : j < (ord s.data.toList n g).length := by rw [HL.out]; omega
          obtain ⟨y, hy⟩ : ∃ y : Nat, (ord s.data.toList n g)[j]'hjL = y := ⟨_, rfl⟩
          have hPl : placeAt (ord s.data.toList n g) g k = y + 1 := by rw [hj, placeAt_succ hjL, hy]
          have CX := fun W (h : Now w w0 p gl F w1.heap.size w2.heap.size lc (.slice (some ⟨gv, 0, none⟩) k cv) s n g k m W) => pnext_any h.pool
          rw [hPl] at CX
          have cellY : ∀ W, Now w w0 p gl F w1.heap.size w2.heap.size lc (.slice (some ⟨gv, 0, none⟩) k cv) s n g k m W → W.cell? ⟨gl, j, none⟩ = some (.int .i64 (y : Int)) := fun W h => by
            rw [h.all.cellAt (g := gl) (cap := lc) j (by omega)]
            simp [ints, hjL, hy]
          have CellY := Lib.hid cellY
          have d2 := cellY _ HWd.out
          have hy3 : (y : Int) ≤ 4096 := by have := (ord_in hjL).2.1; rw [hy] at this; omega
          have hk1 : (k : Int) - 1 = (j : Int) := by omega
          have hk0 : ((k : Int) == 0) = false := by simp; omega
          have hkp : (0 : Int) < (k : Int) := by omega
          have hjl : (j : Int) < (L : Int) := by omega
          have hj0 : (0 : Int) ≤ (j : Int) := by omega
          have hyp : ((y + 1 : Nat) : Int) = (y : Int) + 1 := by omega
          have hv1 : IntKind.i64.wrap (Z : Int) = (Z : Int) := wrapI _ (by omega) (by omega)
          have hv2 : IntKind.i64.wrap (j : Int) = (j : Int) := wrapI _ (by omega) (by omega)
          have hv4 : 0 < k := h0
          have hv3 : IntKind.i64.wrap ((y : Int) + 1) = (y : Int) + 1 := wrapI _ (by omega) (by omega)
          have qG : ((y : Int) + 1 != (y : Int) + 1) = false := by simp
          rw [hyp] at CX
          clear hy hPl hj h0 cellY hjL
          go_wp2_with fail
          refine wp_region_held_drew (S := fun w' => w'.cell? ⟨gl, j, none⟩ = some (.int .i64 y)) (by kernel_rfl) d2 (fun hHeld => ?_)
          refine take_oneH 79 (i := 0) (v := .int .i64 0) rfl rfl (by kernel_rfl) (by kernel_rfl) (by kernel_rfl) (fun _ _ _ h => h) (Or.inl ⟨by kernel_rfl, fun w hSw => by (go_simp)⟩) (by assumption) ?_
          simp only [Act.put, List.setIfInBounds_toArray, List.set_cons_zero, List.set_cons_succ]
          refine take_oneH 80 (i := 1) (v := .bool false) rfl rfl (by kernel_rfl) (by kernel_rfl) (by kernel_rfl) (fun _ _ _ h => h) (Or.inl ⟨by kernel_rfl, fun w hSw => by (go_simp)⟩) (by assumption) ?_
          simp only [Act.put, List.setIfInBounds_toArray, List.set_cons_zero, List.set_cons_succ]
          refine take_oneH 81 (i := 2) (v := .bool false) rfl rfl (by kernel_rfl) (by kernel_rfl) (by kernel_rfl) (fun _ _ _ h => h) (Or.inl ⟨by kernel_rfl, fun w hSw => by (go_simp)⟩) (by assumption) ?_
          simp only [Act.put, List.setIfInBounds_toArray, List.set_cons_zero, List.set_cons_succ]
          refine take_oneH 82 (i := 3) (v := .pointer (some ⟨p, 0, none⟩)) rfl rfl (by kernel_rfl) (by kernel_rfl) (by kernel_rfl) (fun _ _ _ h => h) (Or.inl ⟨by kernel_rfl, fun w hSw => by (go_simp)⟩) (by assumption) ?_
          simp only [Act.put, List.setIfInBounds_toArray, List.set_cons_zero, List.set_cons_succ]
          refine take_oneH 84 (i := 5) (v := .slice (some ⟨gl, 0, none⟩) L lc) rfl rfl (by kernel_rfl) (by kernel_rfl) (by kernel_rfl) (fun _ _ _ h => h) (Or.inl ⟨by kernel_rfl, fun w hSw => by (go_simp)⟩) (by assumption) ?_
          simp only [Act.put, List.setIfInBounds_toArray, List.set_cons_zero, List.set_cons_succ]
          refine take_oneH 85 (i := 6) (v := .int .i64 L) rfl rfl (by kernel_rfl) (by kernel_rfl) (by kernel_rfl) (fun _ _ _ h => h) (Or.inl ⟨by kernel_rfl, fun w hSw => by (go_simp)⟩) (by assumption) ?_
          simp only [Act.put, List.setIfInBounds_toArray, List.set_cons_zero, List.set_cons_succ]
          refine take_oneH 86 (i := 7) (v := .int .i64 k) rfl rfl (by kernel_rfl) (by kernel_rfl) (by kernel_rfl) (fun _ _ _ h => h) (Or.inl ⟨by kernel_rfl, fun w hSw => by (go_simp)⟩) (by assumption) ?_
          simp only [Act.put, List.setIfInBounds_toArray, List.set_cons_zero, List.set_cons_succ]
          refine take_oneH 87 (i := 8) (v := .int .i64 Z) rfl rfl (by kernel_rfl) (by kernel_rfl) (by kernel_rfl) (fun _ _ _ h => h) (Or.inl ⟨by kernel_rfl, fun w hSw => by (go_simp)⟩) (by assumption) ?_
          simp only [Act.put, List.setIfInBounds_toArray, List.set_cons_zero, List.set_cons_succ]
          refine wpAnyH_ready (rs := [4]) (by kernel_rfl) (by simp) ?_
          refine AllReadyH.cons rfl (fun K hK => ?_) (AllReadyH.nil)
          go_simp
          go_at_call 13
          refine (CL).mono ?_
          rintro e w' ⟨rfl, rfl⟩
          go_wp2_with fail
          refine hK.out _ _ d2 (fun hHeld => ?_)
          clear hK K
          try simp only [Act.put, List.setIfInBounds_toArray, List.set_cons_zero, List.set_cons_succ]
          refine take_oneH 88 (i := 9) (v := .bool false) rfl rfl (by kernel_rfl) (by kernel_rfl) (by kernel_rfl) (fun _ _ _ h => h) (Or.inl ⟨by kernel_rfl, fun w hSw => by (go_simp)⟩) (by assumption) ?_
          simp only [Act.put, List.setIfInBounds_toArray, List.set_cons_zero, List.set_cons_succ]
          refine take_oneH 89 (i := 10) (v := .bool false) rfl rfl (by kernel_rfl) (by kernel_rfl) (by kernel_rfl) (fun _ _ _ h => h) (Or.inl ⟨by kernel_rfl, fun w hSw => by (go_simp)⟩) (by assumption) ?_
          simp only [Act.put, List.setIfInBounds_toArray, List.set_cons_zero, List.set_cons_succ]
          refine take_oneH 90 (i := 11) (v := .bool false) rfl rfl (by kernel_rfl) (by kernel_rfl) (by kernel_rfl) (fun _ _ _ h => h) (Or.inl ⟨by kernel_rfl, fun w hSw => by (go_simp)⟩) (by assumption) ?_
          simp only [Act.put, List.setIfInBounds_toArray, List.set_cons_zero, List.set_cons_succ]
          refine take_oneH 91 (i := 12) (v := .pointer (some ⟨p, 0, none⟩)) rfl rfl (by kernel_rfl) (by kernel_rfl) (by kernel_rfl) (fun _ _ _ h => h) (Or.inl ⟨by kernel_rfl, fun w hSw => by (go_simp)⟩) (by assumption) ?_
          simp only [Act.put, List.setIfInBounds_toArray, List.set_cons_zero, List.set_cons_succ]
          refine take_oneH 93 (i := 14) (v := .string T) rfl rfl (by kernel_rfl) (by kernel_rfl) (by kernel_rfl) (fun _ _ _ h => h) (Or.inl ⟨by kernel_rfl, fun w hSw => by (go_simp)⟩) (by assumption) ?_
          simp only [Act.put, List.setIfInBounds_toArray, List.set_cons_zero, List.set_cons_succ]
          refine wpAnyH_ready (rs := [13]) (by kernel_rfl) (by simp) ?_
          refine AllReadyH.cons rfl (fun K hK => ?_) (AllReadyH.nil)
          go_simp
          go_at_call 14
          refine (CK).mono ?_
          rintro e w5 ⟨rfl, hB5⟩
          have H5 := Lib.hid (HWd.out.later hB5)
          have e2 := CellY.out _ H5.out
          clear hB5
          go_wp2_with fail
          refine hK.out _ _ e2 (fun hHeld => ?_)
          clear hK K
          try simp only [Act.put, List.setIfInBounds_toArray, List.set_cons_zero, List.set_cons_succ]
          refine take_oneH 94 (i := 15) (v := .bool false) rfl rfl (by kernel_rfl) (by kernel_rfl) (by kernel_rfl) (fun _ _ _ h => h) (Or.inl ⟨by kernel_rfl, fun w hSw => by (go_simp)⟩) (by assumption) ?_
          simp only [Act.put, List.setIfInBounds_toArray, List.set_cons_zero, List.set_cons_succ]
          refine take_oneH 95 (i := 16) (v := .bool false) rfl rfl (by kernel_rfl) (by kernel_rfl) (by kernel_rfl) (fun _ _ _ h => h) (Or.inl ⟨by kernel_rfl, fun w hSw => by (go_simp)⟩) (by assumption) ?_
          simp only [Act.put, List.setIfInBounds_toArray, List.set_cons_zero, List.set_cons_succ]
          refine take_oneH 96 (i := 17) (v := .bool false) rfl rfl (by kernel_rfl) (by kernel_rfl) (by kernel_rfl) (fun _ _ _ h => h) (Or.inl ⟨by kernel_rfl, fun w hSw => by (go_simp)⟩) (by assumption) ?_
          simp only [Act.put, List.setIfInBounds_toArray, List.set_cons_zero, List.set_cons_succ]
          refine take_oneH 97 (i := 18) (v := .int .i64 k) rfl rfl (by kernel_rfl) (by kernel_rfl) (by kernel_rfl) (fun _ _ _ h => h) (Or.inl ⟨by kernel_rfl, fun w hSw => by (go_simp)⟩) (by assumption) ?_
          simp only [Act.put, List.setIfInBounds_toArray, List.set_cons_zero, List.set_cons_succ]
          refine take_oneH 98 (i := 19) (v := .bool false) rfl rfl (by kernel_rfl) (by kernel_rfl) (by kernel_rfl) (fun _ _ _ h => h) (Or.inl ⟨by kernel_rfl, fun w hSw => by (go_simp)⟩) (by assumption) ?_
          simp only [Act.put, List.setIfInBounds_toArray, List.set_cons_zero, List.set_cons_succ]
          refine take_oneH 99 (i := 20) (v := .bool false) rfl rfl (by kernel_rfl) (by kernel_rfl) (by kernel_rfl) (fun _ _ _ h => h) (Or.inl ⟨by kernel_rfl, fun w hSw => by (go_simp)⟩) (by assumption) ?_
          simp only [Act.put, List.setIfInBounds_toArray, List.set_cons_zero, List.set_cons_succ]
          refine take_oneH 100 (i := 21) (v := undef) rfl rfl (by kernel_rfl) (by kernel_rfl) (by kernel_rfl) (fun _ _ _ h => h) (Or.inr ⟨by kernel_rfl, rfl⟩) (by assumption) ?_
          simp only [Act.put, List.setIfInBounds_toArray, List.set_cons_zero, List.set_cons_succ]
          refine take_oneH 101 (i := 22) (v := undef) rfl rfl (by kernel_rfl) (by kernel_rfl) (by kernel_rfl) (fun _ _ _ h => h) (Or.inr ⟨by kernel_rfl, rfl⟩) (by assumption) ?_
          simp only [Act.put, List.setIfInBounds_toArray, List.set_cons_zero, List.set_cons_succ]
          refine take_oneH 102 (i := 23) (v := undef) rfl rfl (by kernel_rfl) (by kernel_rfl) (by kernel_rfl) (fun _ _ _ h => h) (Or.inr ⟨by kernel_rfl, rfl⟩) (by assumption) ?_
          simp only [Act.put, List.setIfInBounds_toArray, List.set_cons_zero, List.set_cons_succ]
          refine take_oneH 103 (i := 24) (v := undef) rfl rfl (by kernel_rfl) (by kernel_rfl) (by kernel_rfl) (fun _ _ _ h => h) (Or.inr ⟨by kernel_rfl, rfl⟩) (by assumption) ?_
          simp only [Act.put, List.setIfInBounds_toArray, List.set_cons_zero, List.set_cons_succ]
          refine take_oneH 104 (i := 25) (v := undef) rfl rfl (by kernel_rfl) (by kernel_rfl) (by kernel_rfl) (fun _ _ _ h => h) (Or.inr ⟨by kernel_rfl, rfl⟩) (by assumption) ?_
          simp only [Act.put, List.setIfInBounds_toArray, List.set_cons_zero, List.set_cons_succ]
          refine take_oneH 105 (i := 26) (v := .bool false) rfl rfl (by kernel_rfl) (by kernel_rfl) (by kernel_rfl) (fun _ _ _ h => h) (Or.inl ⟨by kernel_rfl, fun w hSw => by (go_simp)⟩) (by assumption) ?_
          simp only [Act.put, List.setIfInBounds_toArray, List.set_cons_zero, List.set_cons_succ]
          refine take_oneH 106 (i := 27) (v := .bool false) rfl rfl (by kernel_rfl) (by kernel_rfl) (by kernel_rfl) (fun _ _ _ h => h) (Or.inl ⟨by kernel_rfl, fun w hSw => by (go_simp)⟩) (by assumption) ?_
          simp only [Act.put, List.setIfInBounds_toArray, List.set_cons_zero, List.set_cons_succ]
          refine take_oneH 107 (i := 28) (v := .bool false) rfl rfl (by kernel_rfl) (by kernel_rfl) (by kernel_rfl) (fun _ _ _ h => h) (Or.inl ⟨by kernel_rfl, fun w hSw => by (go_simp)⟩) (by assumption) ?_
          simp only [Act.put, List.setIfInBounds_toArray, List.set_cons_zero, List.set_cons_succ]
          refine take_oneH 108 (i := 29) (v := .int .i64 k) rfl rfl (by kernel_rfl) (by kernel_rfl) (by kernel_rfl) (fun _ _ _ h => h) (Or.inl ⟨by kernel_rfl, fun w hSw => by (go_simp)⟩) (by assumption) ?_
          simp only [Act.put, List.setIfInBounds_toArray, List.set_cons_zero, List.set_cons_succ]
          refine take_oneH 109 (i := 30) (v := .bool true) rfl rfl (by kernel_rfl) (by kernel_rfl) (by kernel_rfl) (fun _ _ _ h => h) (Or.inl ⟨by kernel_rfl, fun w hSw => by (go_simp)⟩) (by assumption) ?_
          simp only [Act.put, List.setIfInBounds_toArray, List.set_cons_zero, List.set_cons_succ]
          refine take_oneH 110 (i := 31) (v := .bool true) rfl rfl (by kernel_rfl) (by kernel_rfl) (by kernel_rfl) (fun _ _ _ h => h) (Or.inl ⟨by kernel_rfl, fun w hSw => by (go_simp)⟩) (by assumption) ?_
          simp only [Act.put, List.setIfInBounds_toArray, List.set_cons_zero, List.set_cons_succ]
          refine take_oneH 111 (i := 32) (v := .int .i64 k) rfl rfl (by kernel_rfl) (by kernel_rfl) (by kernel_rfl) (fun _ _ _ h => h) (Or.inl ⟨by kernel_rfl, fun w hSw => by (go_simp)⟩) (by assumption) ?_
          simp only [Act.put, List.setIfInBounds_toArray, List.set_cons_zero, List.set_cons_succ]
          refine take_oneH 112 (i := 33) (v := .int .i64 j) rfl rfl (by kernel_rfl) (by kernel_rfl) (by kernel_rfl) (fun _ _ _ h => h) (Or.inl ⟨by kernel_rfl, fun w hSw => by (go_simp)⟩) (by assumption) ?_
          simp only [Act.put, List.setIfInBounds_toArray, List.set_cons_zero, List.set_cons_succ]
          refine take_oneH 113 (i := 34) (v := .slice (some ⟨gl, 0, none⟩) L lc) rfl rfl (by kernel_rfl) (by kernel_rfl) (by kernel_rfl) (fun _ _ _ h => h) (Or.inl ⟨by kernel_rfl, fun w hSw => by (go_simp)⟩) (by assumption) ?_
          simp only [Act.put, List.setIfInBounds_toArray, List.set_cons_zero, List.set_cons_succ]
          refine take_oneH 114 (i := 35) (v := .int .i64 L) rfl rfl (by kernel_rfl) (by kernel_rfl) (by kernel_rfl) (fun _ _ _ h => h) (Or.inl ⟨by kernel_rfl, fun w hSw => by (go_simp)⟩) (by assumption) ?_
          simp only [Act.put, List.setIfInBounds_toArray, List.set_cons_zero, List.set_cons_succ]
          refine take_oneH 115 (i := 36) (v := .bool true) rfl rfl (by kernel_rfl) (by kernel_rfl) (by kernel_rfl) (fun _ _ _ h => h) (Or.inl ⟨by kernel_rfl, fun w hSw => by (go_simp)⟩) (by assumption) ?_
          simp only [Act.put, List.setIfInBounds_toArray, List.set_cons_zero, List.set_cons_succ]
          refine take_oneH 116 (i := 37) (v := .bool true) rfl rfl (by kernel_rfl) (by kernel_rfl) (by kernel_rfl) (fun _ _ _ h => h) (Or.inl ⟨by kernel_rfl, fun w hSw => by (go_simp)⟩) (by assumption) ?_
          simp only [Act.put, List.setIfInBounds_toArray, List.set_cons_zero, List.set_cons_succ]
          refine take_oneH 117 (i := 38) (v := .bool true) rfl rfl (by kernel_rfl) (by kernel_rfl) (by kernel_rfl) (fun _ _ _ h => h) (Or.inl ⟨by kernel_rfl, fun w hSw => by (go_simp)⟩) (by assumption) ?_
          simp only [Act.put, List.setIfInBounds_toArray, List.set_cons_zero, List.set_cons_succ]
          refine take_oneH 118 (i := 39) (v := .pointer (some ⟨p, 0, none⟩)) rfl rfl (by kernel_rfl) (by kernel_rfl) (by kernel_rfl) (fun _ _ _ h => h) (Or.inl ⟨by kernel_rfl, fun w hSw => by (go_simp)⟩) (by assumption) ?_
          simp only [Act.put, List.setIfInBounds_toArray, List.set_cons_zero, List.set_cons_succ]
          refine take_oneH 120 (i := 41) (v := .slice (some ⟨gl, 0, none⟩) L lc) rfl rfl (by kernel_rfl) (by kernel_rfl) (by kernel_rfl) (fun _ _ _ h => h) (Or.inl ⟨by kernel_rfl, fun w hSw => by (go_simp)⟩) (by assumption) ?_
          simp only [Act.put, List.setIfInBounds_toArray, List.set_cons_zero, List.set_cons_succ]
          refine take_oneH 121 (i := 42) (v := .int .i64 k) rfl rfl (by kernel_rfl) (by kernel_rfl) (by kernel_rfl) (fun _ _ _ h => h) (Or.inl ⟨by kernel_rfl, fun w hSw => by (go_simp)⟩) (by assumption) ?_
          simp only [Act.put, List.setIfInBounds_toArray, List.set_cons_zero, List.set_cons_succ]
          refine take_oneH 122 (i := 43) (v := .int .i64 j) rfl rfl (by kernel_rfl) (by kernel_rfl) (by kernel_rfl) (fun _ _ _ h => h) (Or.inl ⟨by kernel_rfl, fun w hSw => by (go_simp)⟩) (by assumption) ?_
          simp only [Act.put, List.setIfInBounds_toArray, List.set_cons_zero, List.set_cons_succ]
          refine take_oneH 123 (i := 44) (v := .pointer (some ⟨gl, j, none⟩)) rfl rfl (by kernel_rfl) (by kernel_rfl) (by kernel_rfl) (fun _ _ _ h => h) (Or.inl ⟨by kernel_rfl, fun w hSw => by (go_simp)⟩) (by assumption) ?_
          simp only [Act.put, List.setIfInBounds_toArray, List.set_cons_zero, List.set_cons_succ]
          refine take_oneH 124 (i := 45) (v := .int .i64 y) rfl rfl (by kernel_rfl) (by kernel_rfl) (by kernel_rfl) (fun _ _ _ h => h) (Or.inl ⟨by kernel_rfl, fun w hSw => by (go_simp)⟩) (by assumption) ?_
          simp only [Act.put, List.setIfInBounds_toArray, List.set_cons_zero, List.set_cons_succ]
          refine take_oneH 125 (i := 46) (v := .int .i64 ((y : Int) + 1)) rfl rfl (by kernel_rfl) (by kernel_rfl) (by kernel_rfl) (fun _ _ _ h => h) (Or.inl ⟨by kernel_rfl, fun w hSw => by (go_simp)⟩) (by assumption) ?_
          simp only [Act.put, List.setIfInBounds_toArray, List.set_cons_zero, List.set_cons_succ]
          refine wpAnyH_ready (rs := [40]) (by kernel_rfl) (by simp) ?_
          refine AllReadyH.cons rfl (fun K hK => ?_) (AllReadyH.nil)
          go_simp
          go_at_call 15
          refine (CX _ H5.out).mono ?_
          rintro e w' ⟨rfl, rfl⟩
          go_wp2_with fail
          refine hK.out _ _ e2 (fun hHeld => ?_)
          clear hK K
          try simp only [Act.put, List.setIfInBounds_toArray, List.set_cons_zero, List.set_cons_succ]
          refine take_oneH 126 (i := 47) (v := .bool false) rfl rfl (by kernel_rfl) (by kernel_rfl) (by kernel_rfl) (fun _ _ _ h => h) (Or.inl ⟨by kernel_rfl, fun w hSw => by (go_simp)⟩) (by assumption) ?_
          simp only [Act.put, List.setIfInBounds_toArray, List.set_cons_zero, List.set_cons_succ]
          refine take_oneH 127 (i := 48) (v := .bool false) rfl rfl (by kernel_rfl) (by kernel_rfl) (by kernel_rfl) (fun _ _ _ h => h) (Or.inl ⟨by kernel_rfl, fun w hSw => by (go_simp)⟩) (by assumption) ?_
          simp only [Act.put, List.setIfInBounds_toArray, List.set_cons_zero, List.set_cons_succ]
          refine take_oneH 128 (i := 49) (v := .bool false) rfl rfl (by kernel_rfl) (by kernel_rfl) (by kernel_rfl) (fun _ _ _ h => h) (Or.inl ⟨by kernel_rfl, fun w hSw => by (go_simp)⟩) (by assumption) ?_
          simp only [Act.put, List.setIfInBounds_toArray, List.set_cons_zero, List.set_cons_succ]
          refine wpAnyH_done (by kernel_rfl) ?_ _
          clear CL CK CX d2 e2 hk1 hk0 hkp hjl hj0 hyp qG CellY hv1 hv2 hv3 hv4
          by_cases hlast : k = L
          · have CT := take_no H5.out.pool (by rw [HL.out]; exact hlast)
            subst hlast
            have qL : ((k : Int) == (k : Int)) = true := by simp
            go_wp2_with fail
            refine CT.mono ?_
            rintro e w6 ⟨rfl, rfl⟩
            go_wp2_with fail
            refine (CF _).mono ?_
            rintro e w7 ⟨rfl, hB7⟩
            have HB7 := Lib.hid (H5.out.below.trans (hB7.mono H5.out.below.size))
            clear hB7
            go_wp2
            go_ret
            exact ⟨rfl, HB7.out⟩
          · have hkL : k < (ord s.data.toList n g).length := by rw [HL.out]; omega
            obtain ⟨x, hx⟩ : ∃ x : Nat, (ord s.data.toList n g)[k]'hkL = x := ⟨_, rfl⟩
            have CT := take_yes H5.out.pool hkL
            rw [hx] at CT
            have hin := ord_in hkL
            rw [hx] at hin
            have hxn : ((x : Nat) : Int) < (n : Int) := by omega
            have hx1 : (1 : Int) ≤ (x : Int) := by omega
            have HX := Lib.hid (show ints ((ord s.data.toList n g).take (k + 1)) = ints ((ord s.data.toList n g).take k) ++ [.int .i64 (x : Int)] by
              rw [← hx, List.take_succ_eq_append_getElem hkL]; unfold ints; rw [List.map_append]; rfl)
            have HC := Lib.hid (fun (W : World) (h : W.ownsRow w1.heap.size 3 1 (.slice (some ⟨gl, 0, none⟩) (ord s.data.toList n g).length lc) (ord s.data.toList n g).length (ints (ord s.data.toList n g))) => show W.cell? ⟨gl, k, none⟩ = some (.int .i64 (x : Int)) by
              rw [h.cellAt (g := gl) (cap := lc) k (by omega)]
              simp [ints, hkL, hx])
            have HBu := Lib.hid (show bitI s.data.toList (x : Int) = false by rw [bitI_n]; exact hin.2.2)
            have HBt := Lib.hid (show bitI T.data.toList (x : Int) = false by
              rw [← HT.out, bs_list, bitI_n, bit_ofL (okI_nats (fun m hm => ord_small HV.out.1.2 hm))]
              simp only [decide_eq_false_iff_not, mem_intsN]
              intro hm
              have hd := (mem_drop_iff (nodup_ord s.data.toList n g) k x).1 (by rw [List.drop_eq_getElem_cons hkL, hx]; exact List.mem_cons_self)
              exact hd.2 hm)
            have qX : ((x : Int) != (x : Int)) = false := by simp
            have hkL2 : ((k : Nat) : Int) < (L : Int) := by rw [HL.out] at hkL; omega
            have hkL3 : (((k : Nat) : Int) == (L : Int)) = false := by rw [HL.out] at hkL; simp; omega
            have hx4 : (x : Int) ≤ 4096 := by omega
            clear hx hin hlast hkL
            go_wp2_with fail
            refine CT.mono ?_
            rintro e w6 ⟨rfl, F', hp6, hs6, hF6⟩
            have HTk := Lib.hid (H5.out.took hp6 hs6 hF6)
            obtain ⟨d0, d1, d2, d3⟩ := HTk.out.2.2.2.1.cells
            have cx := HC.out _ HTk.out.2.1
            have hrow := HTk.out.2.2.1
            have hgb6 := HTk.out.2.2.2.2.2.2.2
            have hl5 := H5.out.hl
            obtain ⟨i0, hi, hz0, hz1, hz2⟩ := info_parts info3
            have hk4 : k ≤ 4096 := by omega
            have CHs := fun (U : ByteArray) (h : U = s ∨ U = T) (w : World) => show Calls Try.prog 17 #[.string U, .int .i64 (x : Int)] w (fun e w' => e = .returned (.bool false) ∧ w = w') from by
              rcases h with e | e
              · rw [e, ← HBu.out]; exact has_any s (x : Int) w hu (by omega) (by omega)
              · rw [e, ← HBt.out]; exact has_any T (x : Int) w hTs (by omega) (by omega)
            clear hp6 hs6 hF6 CT
            go_wp2_with (first
              | (go_at_call 17; refine (CHs _ (by first | exact .inl rfl | exact .inr rfl) _).mono ?_; rintro e w' ⟨rfl, rfl⟩)
              | (at_builtin; refine wpList_append_own_at _ rfl _ _ 24 rfl w2.heap.size 3 i0 (.int .i64 0) 1 8 Try.underlying24 hi hz0 hz1 hz2 rfl (by decide) (.slice (some ⟨gv, 0, none⟩) k cv) k _ rfl (hrow.alloc _) ⟨w6.heap.size, 0, none⟩ 1 1 [.int .i64 (x : Int)] rfl rfl (cell_one_new _ _ _) (by simp [Value.oneCell']) (by unfold maxLen; omega) (by omega) (by rw [World.size_alloc]; omega) ?_; intro v' w7 hown' hgrow hnl hat))
            have hgvb : w2.heap.size ≤ gv := (hrow.lt gv rfl).1
            have hST : Stir (fun j => (Value.slice (some ⟨gv, 0, none⟩) k cv).ownBlock = some j) w6 w7 := by
              refine ⟨hgrow.os, hgrow.tape, hgrow.output, Nat.le_trans (by simp) hgrow.size, fun j hj hn => ?_⟩
              rw [hgrow.block j (by rw [World.size_alloc]; omega) (fun e => hn e.symm)]
              exact Below.heap_alloc w6 _ j hj
            have HNx := Lib.hid (show Now w w0 p gl F' w1.heap.size w2.heap.size lc v' s n g (k + 1) m w7 from
              ⟨HTk.out.1.stay hST (fun j hj e => HTk.out.2.2.2.2.2.2.1 j e hj), owns_keep HTk.out.2.1 (fun j hj => hST.block j (HTk.out.2.1.lt j hj).2 (fun e => by
                  have e1 : gl = j := by simpa [Value.ownBlock] using hj
                  have e2 : gv = j := by simpa [Value.ownBlock] using e
                  omega)), by rw [HX.out]; exact hown', HTk.out.2.2.2.1.stay hST (fun e => by
                  have e2 : gv = w.heap.size := by simpa [Value.ownBlock] using e
                  omega), HTk.out.2.2.2.2.1.trans (hST.below (fun j e => by
                  have e2 : gv = j := by simpa [Value.ownBlock] using e
                  omega) HTk.out.2.2.2.2.1.size), ⟨hl5.1, hl5.2.1, hl5.2.2.1, Nat.le_trans hgb6 hST.size⟩, HTk.out.2.2.2.2.2.1, fun j hj e => by
                rcases hat with h | h
                · exact HTk.out.2.2.2.2.2.2.1 j (h.symm.trans hj) e
                · have h5 : j = (w6.alloc (.cells #[.int .i64 (x : Int)] 3)).heap.size := by simpa using hj.symm.trans h
                  have := (HTk.out.1.lt e).1
                  rw [World.size_alloc] at h5
                  omega, fun e => by have := (hnl.1 e).2; cases this⟩)
            clear hown' hgrow hnl hat hST hrow d0 d1 d2 d3 cx
            go_wp2
            go_roundw
            case rel => exact ⟨k + 1, F', by omega, by go_num, HNx⟩
            case measure => first | (simp [intOf]; omega) | simp [intOf]
set_option maxRecDepth 100000 in
/-- WHAT THE WALK GIVES, for every argument that can be read. -/
theorem contract (H : Type) (enc : TypeId × Value → H) (W : World) (base : Nat) (args : Array Value) (ds gs : List (DataW H)) (before : List MemPlace)
    (hval : ∀ (j : Nat) t v, Try.f4.params[j]? = some t → args[j]? = some v → Value.okWide Try.prog W .any base t v)
    (hW : DataW.Whole enc Try.prog Try.f4.params.toList Rows.allocTakesSpec.vars false W args.toList ds gs before)
    (hreach : (DataW.weightsEach Try.prog (Try.f4.params.toList) ds).all (· ≤ reachBytes) = true) :
    Calls Try.prog 4 args W fun e W' => ∃ v, e = .returned v ∧ Rows.allocTakesSpec.post enc Try.prog Try.f4 false true false false W args v W' := by
  have hW' := hW
  obtain ⟨p, q, hA0, hV, rfl, hfz, hnd⟩ := hW
  have hA : DataW.TrodAll enc Try.prog W 0 (fun _ => true) true Try.f4.params.toList args.toList ds p := hA0
  rw [Try.params4] at hA hval hreach
  obtain ⟨v0, d0, rfl, rfl, h0⟩ := trodAll_one hA
  obtain ⟨rfl, rfl⟩ := trodVars_none hV
  obtain ⟨u0, b0, f0, m0, rfl, r0, rfl, sh0⟩ := ask_open (hval 0 23 v0 rfl rfl) h0 hreach (j := 0) rfl rfl
  clear hA0 hval
  simp only [List.append_nil] at hW'
  refine (walk u0 b0 f0 m0 W r0).mono fun e W' ⟨he, hB⟩ => ?_
  subst he
  exact ⟨_, rfl, post_of_below (pa := []) (pv := []) hW' (fun _ _ _ => trodAll_mk1 (shut_bool Try.underlying4 _)) (fun sp hsp => trodAll_mk1 (sh0 _ _)) (fun _ _ => rfl) (by simp) hB (ok_one (by kernel_rfl) rfl (okWide_bool_mk Try.underlying4 _))⟩

theorem reads (os : Os) {H : Type} (enc : TypeId × Value → H) : ∃ places, DataW.whole enc Try.prog ((laidWorld os).forCall (fun _ _ => 0) ⟨#[], #[.agg #[.string ⟨#[]⟩, .int .i64 0, .int .i64 0, .int .i64 0]], []⟩).memory Try.f4.params.toList Rows.allocTakesSpec.vars false (#[.agg #[.string ⟨#[]⟩, .int .i64 0, .int .i64 0, .int .i64 0]] : Array Value).toList 8 = some ([.agg [.lit (.string []), .lit (.int .i64 0), .lit (.int .i64 0), .lit (.int .i64 0)]], [], places) :=
  ⟨[], by kernel_rfl⟩

set_option maxRecDepth 100000 in
theorem lifted (os : Os) (started : os.Started) (H : Type) (enc : TypeId × Value → H) (F : Stop.Interp) :
    ReturnsInHanded {} Try.checked os 4 .any ((OpenSpec.ofChange Rows.allocTakesSpec).preRow enc Try.prog Try.f4 Rows.allocTakesRow.domain false Rows.allocTakesRow.laid) (((OpenSpec.ofChange Rows.allocTakesSpec).at F).post enc Try.prog Try.f4 false true false false) := by
  obtain ⟨places, hx⟩ := reads os enc
  refine returnsInHanded_of_row (C := Try.checked) (s := OpenSpec.ofChange Rows.allocTakesSpec) own started (by kernel_rfl) Try.func4
    (witness_row_at (enc := enc) (C := Try.checked) false (laidWorld os) #[.agg #[.string ⟨#[]⟩, .int .i64 0, .int .i64 0, .int .i64 0]] rfl (by kernel_rfl) (by kernel_rfl) (by kernel_rfl)
      (OpenSpec.preRow_of_cond 8 hx (by kernel_rfl) (fun k hk => by cases hk) (by kernel_rfl) (laid_met os _))) ?_
  intro W base args ds gs before hval hW _ hcond hreach hL _ _
  obtain ⟨p, q, hA0, hV, hpq, hfz, hnd⟩ := id hW
  obtain ⟨rfl, _⟩ := trodVars_none hV
  rw [List.append_nil] at hreach
  exact contract H enc W base args ds [] before hval hW hreach

theorem said : Rows.AllocTakesSaid :=
  OpenClaim.holds_of_cond 4 Try.f4 rfl rfl rfl rfl rfl rfl rfl ⟨rfl, rfl, rfl, rfl, rfl⟩ rfl rfl rfl rfl rfl (by kernel_rfl) Try.func4 (by kernel_rfl)
    (of_decide_eq_true (by kernel_rfl)) (by unfold Func.isWrapper; first | (rw [if_pos (by decide +kernel)]; kernel_rfl) | (rw [if_neg (by decide +kernel)]; exact ⟨rfl, rfl⟩))
    (fun os started H enc _ F => by rw [OpenClaim.pre_eq_preRow]; exact lifted os started H enc F)



end Go.Proofs.Ytknfakaklmpboaa.takes

