/-
  The reference's Send and Step.
-/
import Derived.Test.YtiiplchakanomaaLnkR
import Derived.Test.YtiiplchakanomaaLnkB
import Derived.Test.YtiiplchakanomaaLnkC
import Derived.Test.YtiiplchakanomaaKitH
namespace Go.Proofs.Ytiiplchakanomaa
open Go.RowKit Go

/-- a text's bytes, one of them turned, and the text of these -/
theorem byte_turnedD (S : ByteArray) (k : Nat) (hk : k < S.size) (m : UInt8) (w : World) : ∃ (cap : Nat) (y v : UInt8) (w5 w6 : World),
    (convert 9 48 (.string S)).run Try.prog w = .ok (.slice (some ⟨w.heap.size, 0, none⟩) S.size cap) w5 ∧ w5.cell? ⟨w.heap.size, k, none⟩ = some (.int .u8 (y.toNat : Int)) ∧ w5.frozen? ⟨w.heap.size, k, none⟩ = false ∧ bits .xor .u8 (y.toNat : Int) (m.toNat : Int) = (v.toNat : Int) ∧
    w5.drew.setCell ⟨w.heap.size, k, none⟩ (.int .u8 (v.toNat : Int)) = w6 ∧ (convert 48 9 (.slice (some ⟨w.heap.size, 0, none⟩) S.size cap)).run Try.prog w6 = .ok (.string ⟨(S.data.toList.set k v).toArray⟩) w6 ∧ y = S.data.toList.getD k 0 ∧ v = y ^^^ m ∧ Below w.heap.size w w5 ∧ Below w.heap.size w w6 := by
  have len_of : ∀ s : ByteArray, s.data.toList.length = s.size := fun s => by simp
  have hcv := Lib.run_convert_string_bytes (P := Try.prog) w 9 48 5 S Try.underlying9 Try.underlying48 Try.underlying5
  have hbc := Lib.bytesWorld_cell w 5 S
  have hbn := Lib.bytesWorld_at_new w 5 S
  have hbs : S.size ≤ (Lib.bytesCells w 5 S).size := by
    unfold Lib.bytesCells
    rw [Array.size_append, Array.size_map]
    exact Nat.le_add_right _ _
  have hB5 := below_bytesW w 5 S
  obtain ⟨cap, hcap⟩ : ∃ cap, grownCap w S.size 0 5 = cap := ⟨_, rfl⟩
  rw [hcap] at hcv
  obtain ⟨bc, hbcs⟩ : ∃ bc, Lib.bytesCells w 5 S = bc := ⟨_, rfl⟩
  rw [hbcs] at hbn hbs
  obtain ⟨w5, hw5⟩ : ∃ w5, Lib.bytesWorld w 5 S = w5 := ⟨_, rfl⟩
  rw [hw5] at hcv hbc hbn hB5
  have hkl : k < S.data.toList.length := by rw [len_of]; exact hk
  obtain ⟨y, hy⟩ : ∃ y, S.data.toList.getD k 0 = y := ⟨_, rfl⟩
  have ck : w5.cell? ⟨w.heap.size, k, none⟩ = some (.int .u8 (y.toNat : Int)) := by
    rw [hbc k hk, ← hy]
  have hfz : w5.frozen? ⟨w.heap.size, k, none⟩ = false := by
    simp [World.frozen?, hbn]
    omega
  obtain ⟨v, hv⟩ : ∃ v, y ^^^ m = v := ⟨_, rfl⟩
  have hxr := xor8 y m
  rw [hv] at hxr
  obtain ⟨w6, hw6⟩ : ∃ w6, w5.drew.setCell ⟨w.heap.size, k, none⟩ (.int .u8 (v.toNat : Int)) = w6 := ⟨_, rfl⟩
  have hB6 : Below w.heap.size w w6 := by
    rw [← hw6]
    exact hB5.drew.setCell (Nat.le_refl _) _
  have hbn6 : w6.heap[w.heap.size]? = some (.cells (bc.setIfInBounds k (.int .u8 (v.toNat : Int))) 5 (bc.size, bc.size + 1)) := by
    rw [← hw6]
    exact heap_set (w := w5.drew) hbn _
  have hcells : ∀ j (hj : j < (S.data.toList.set k v).length), w6.cell? ((⟨w.heap.size, 0, none⟩ : Addr).add j) = some (.int .u8 ((S.data.toList.set k v)[j].toNat : Int)) := fun j hj => by
    rw [List.length_set] at hj
    have hjS : j < S.size := by rw [← len_of]; exact hj
    have hc5 := hbc j hjS
    rw [List.getD_eq_getElem?_getD, List.getElem?_eq_getElem hj, Option.getD_some] at hc5
    have e : (⟨w.heap.size, 0, none⟩ : Addr).add j = ⟨w.heap.size, j, none⟩ := by cases j <;> simp [Addr.add]
    rw [e]
    by_cases h : j = k
    · subst h
      have hjb : j < bc.size := by omega
      simp [World.cell?, hbn6, hjb]
    · rw [List.getElem_set_ne (Ne.symm h)]
      have hc6 : w6.cell? ⟨w.heap.size, j, none⟩ = w5.cell? ⟨w.heap.size, j, none⟩ := by
        simp [World.cell?, hbn6, hbn, Ne.symm h]
      rw [hc6, hc5]
  have hback := run_convert_bytes_back (P := Try.prog) w6 48 9 5 ⟨w.heap.size, 0, none⟩ cap (S.data.toList.set k v) Try.underlying48 Try.underlying5 Try.underlying9 hcells
  rw [List.length_set, len_of] at hback
  exact ⟨cap, y, v, w5, w6, hcv, ck, hfz, hxr, hw6, hback, hy.symm, hv.symm, hB5, hB6⟩
section
variable {w : World} {b room : Nat} {v u : Value} {L : List ByteArray} {T : List Lte} {G : Nat → Prop}
theorem rpSame {L1 L2 : List ByteArray} {T1 T2 : List Lte} {w' : World} (h : RPut room L1 T1 b G w w') (e1 : L1 = L2) (e2 : T1 = T2) : RPut room L2 T2 b G w w' := e1 ▸ e2 ▸ h
theorem lteVals_one (T : List Lte) : ∀ u ∈ lteVals T, u.oneCell' = true := fun u hu => by
  unfold lteVals at hu
  obtain ⟨x, _, hx⟩ := List.mem_flatMap.1 hu
  simp at hx
  rcases hx with rfl | rfl <;> rfl
set_option maxRecDepth 100000 in
set_option maxHeartbeats 4000000 in
theorem rsend_any (h : RAt room L T b v u G w) (hr : room ≤ 4096) (hT : T.length ≤ 100000) (s : ByteArray) (f : Fte) (h9 : f.n ≤ 9223372036854775807) :
    Calls Try.prog 10 #[.pointer (some ⟨b, 0, none⟩), .string s, fteV f] w fun e w' => e = .returned (.int .i64 (sendE f)) ∧ RPut room (sendL room L s f) (sendT T s f) b G w w' := by
  obtain ⟨w1, hw1, hB, hc⟩ := fte_box f w
  have HB := Lib.hid hB
  have H := Lib.hid (h.later hB)
  have HC := Lib.hid hc
  have HST := Lib.hid (Stir.of_below (F := G) hB)
  obtain ⟨c0, c1, c2⟩ := hc w1 (Below.refl _ _)
  have HRN := Lib.hid (RPut.trans (Stir.of_below (F := G) hB) (fun k hk => .inl hk) (RPut.none (h.later hB) (Below.refl _ _)))
  have HE : Hid (sendE f = if mayV f then 0 else 180) := Lib.hid rfl
  have HL : Hid (sendL room L s f = if mayV f then nowL room L s f else L) := Lib.hid rfl
  have HT : Hid (sendT T s f = if mayV f && f.kind == 3 then T ++ [(s, f.n.toNat)] else T) := Lib.hid rfl
  have HM : Hid (mayV f = (f.kind == 0 || f.kind == 1 || f.kind == 2 || (f.kind == 3 && decide (1 ≤ f.n) && decide (f.n ≤ 8)) || (f.kind == 4 && decide (0 ≤ f.n)))) := Lib.hid rfl
  have HN : Hid (nowL room L s f = if f.kind = 0 then comesL room L s else if f.kind = 2 then comesL room (comesL room L s) s else if f.kind = 4 then comesL room L (turnB s f.n f.mask) else L) := Lib.hid rfl
  generalize sendE f = E at *
  generalize sendL room L s f = SL at *
  generalize sendT T s f = ST at *
  generalize nowL room L s f = NL at *
  generalize mayV f = M at *
  obtain ⟨K, n, m⟩ := f
  simp only at c0 c1 c2 h9 HE HL HT HM HN
  unfold fteV
  unfold fteO at hw1
  clear hc hB
  by_cases h0 : K = 0
  · subst h0
    have HR := Lib.hid (show E = 0 ∧ comesL room L s = SL ∧ T = ST by
      rw [HE.out, HL.out, HT.out, HN.out, HM.out]; simp)
    have CP := fun w' (hB : Below w1.heap.size w1 w') => rcomes_any (H.out.later hB) hr s
    clear h c1 c2 HE HL HT HN HM HC
    go_enter Try.func10, Try.ntmps10
    go_wp2_with fail
    refine (CP _ (Below.refl _ _)).mono ?_
    rintro e w2 ⟨rfl, hP⟩
    have HP := Lib.hid (RPut.trans HST.out (fun k hk => .inl hk) hP.put)
    clear hP CP
    go_wp2_with fail
    go_ret
    exact ⟨by rw [HR.out.1]; rfl, rpSame HP.out HR.out.2.1 HR.out.2.2⟩
  by_cases h1 : K = 1
  · subst h1
    have HR := Lib.hid (show E = 0 ∧ L = SL ∧ T = ST by
      rw [HE.out, HL.out, HT.out, HN.out, HM.out]; simp)
    clear h c1 c2 HE HL HT HN HM HC h0
    go_enter Try.func10, Try.ntmps10
    go_wp2
    go_ret
    exact ⟨by rw [HR.out.1]; rfl, rpSame HRN.out HR.out.2.1 HR.out.2.2⟩
  by_cases h2 : K = 2
  · subst h2
    have HR := Lib.hid (show E = 0 ∧ comesL room (comesL room L s) s = SL ∧ T = ST by
      rw [HE.out, HL.out, HT.out, HN.out, HM.out]; simp)
    have CP := rcomes_any H.out hr s
    clear h c1 c2 HE HL HT HN HM HC h0 h1
    go_enter Try.func10, Try.ntmps10
    go_wp2_with fail
    refine CP.mono ?_
    rintro e w2 ⟨rfl, v2, G2, h2, hG2, hS2⟩
    have CP2 := rcomes_any h2 hr s
    have HG2 := Lib.hid hG2
    have HS2 := Lib.hid (HST.out.trans hS2 (fun k hk => .inl hk))
    have HZ := Lib.hid HB.out.size
    clear h2 hG2 hS2 CP
    go_wp2_with fail
    refine CP2.mono ?_
    rintro e w3 ⟨rfl, hP⟩
    have HP := Lib.hid (RPut.trans HS2.out (fun k hk => (HG2.out k hk).elim .inl (fun h => .inr (Nat.le_trans HZ.out h))) hP.put)
    clear hP CP2
    go_wp2_with fail
    go_ret
    exact ⟨by rw [HR.out.1]; rfl, rpSame HP.out HR.out.2.1 HR.out.2.2⟩
  by_cases h3 : K = 3
  · subst h3
    clear h0 h1 h2
    by_cases n1 : 1 ≤ n
    · by_cases n8 : n ≤ 8
      · have HR := Lib.hid (show E = 0 ∧ L = SL ∧ T ++ [(s, n.toNat)] = ST by
          rw [HE.out, HL.out, HT.out, HN.out, HM.out]; simp [n1, n8])
        obtain ⟨nn, hnn⟩ : ∃ nn : Nat, n = (nn : Int) := ⟨n.toNat, by omega⟩
        subst hnn
        rw [Int.toNat_natCast] at HR
        obtain ⟨i0, hi0, hz0, hz1, hz2⟩ := info_parts infoRlt
        obtain ⟨a2, cap2, hu⟩ := row_shape h.late
        subst hu
        have hone : ∀ u ∈ [Value.string s, .int .i64 (nn : Int)], u.oneCell' = true := by intro u hu; simp at hu; rcases hu with rfl | rfl <;> rfl
        have HTL := Lib.hid hT
        have hBd : Below w1.heap.size w1 w1.drew := (Below.refl _ _).drew
        have HA := Lib.hid (show ∀ W, Below w1.drew.heap.size w1.drew W → RAt room L T b v (.slice a2 T.length cap2) G W from fun W hB => H.out.later (hBd.trans hB))
        have HALL := Lib.hid (show ∀ W, Below w1.drew.heap.size w1.drew W → W.cell? ⟨w.heap.size, 1, none⟩ = some (.int .i64 (nn : Int)) from fun W hB => (HC.out W (hBd.trans hB)).2.1)
        have HLW := Lib.hid (show ∀ W, Below w1.drew.heap.size w1.drew W → W.cell? ⟨b, 2, none⟩ = some (.slice a2 T.length cap2) from fun W hB => RObj.c2 (H.out.later (hBd.trans hB)).obj)
        have HPK := Lib.hid (show ∀ (W : World) (y : Value), W.cell? ⟨w.heap.size, 1, none⟩ = some (.int .i64 (nn : Int)) → (W.setCell ⟨b, 2, none⟩ y).cell? ⟨w.heap.size, 1, none⟩ = some (.int .i64 (nn : Int)) from fun W y hW => by
          have hne : w.heap.size ≠ b := fun e => Nat.lt_irrefl b (by have := h.lt b h.own; rw [e] at this; exact this)
          exact (World.cell?_of_block (w := W) (Below.heap_setCell W ⟨b, 2, none⟩ y w.heap.size hne)).trans hW)
        have HALL0 := Lib.hid (HALL.out _ (Below.refl _ _))
        have hEND := Lib.hid (show ∀ (av : Option Addr) (cv : Nat) (W : World) (_ : W.ownsRow w1.drew.heap.size 62 2 (.slice av (T.length + 1) cv) (T.length + 1) (lteVals T ++ [.string s, .int .i64 (nn : Int)]) ∧ Below w1.drew.heap.size w1.drew W),
            Ending.returned (.int .i64 0) = .returned (.int .i64 E) ∧ RPut room SL ST b G w (W.setCell ⟨b, 2, none⟩ (.slice av (T.length + 1) cv)) from fun av cv W h => by
          have hB2 : Below w1.heap.size w1 W := hBd.trans h.2
          refine ⟨by rw [HR.out.1], rpSame (RPut.trans HST.out (fun k hk => .inl hk) (H.out.put2 (T' := T ++ [(s, nn)]) (by rw [lteVals_snoc, List.length_append]; exact h.1) (grown_row hB2 _) (fun k hk => .inr (h.1.lt k hk).1))) HR.out.2.1 HR.out.2.2⟩)
        have hBd2 := Below.refl w1.drew.heap.size w1.drew
        clear h HE HL HT HN HM c2 h9 hBd HC H HR HB HST HRN hT
        go_enter Try.func10, Try.ntmps10
        go_wp2_with fail
        -- REGION
        refine wp_region_held_drew (S := fun w' => w'.cell? ⟨w.heap.size, 1, none⟩ = some (.int .i64 (nn : Int))) (by kernel_rfl) (HALL0.out) (fun hHeld => ?_)
        generalize w1.drew = wd at hBd2 HALL HALL0 HLW HA hEND hHeld ⊢
        refine take_oneH 35 (i := 0) (v := .pointer (some ⟨b, 0, none⟩)) rfl rfl (by kernel_rfl) (by kernel_rfl) (by kernel_rfl) (fun _ _ _ h => h) (Or.inl ⟨by kernel_rfl, fun w hSw => by (go_simp)⟩) (by assumption) ?_
        simp only [Act.put, List.setIfInBounds_toArray, List.set_cons_zero, List.set_cons_succ]
        refine take_oneH 37 (i := 2) (v := .pointer (some ⟨b, 0, none⟩)) rfl rfl (by kernel_rfl) (by kernel_rfl) (by kernel_rfl) (fun _ _ _ h => h) (Or.inl ⟨by kernel_rfl, fun w hSw => by (go_simp)⟩) (by assumption) ?_
        simp only [Act.put, List.setIfInBounds_toArray, List.set_cons_zero, List.set_cons_succ]
        refine take_oneH 38 (i := 3) (v := .pointer (some ⟨b, 0, none⟩)) rfl rfl (by kernel_rfl) (by kernel_rfl) (by kernel_rfl) (fun _ _ _ h => h) (Or.inl ⟨by kernel_rfl, fun w hSw => by (go_simp)⟩) (by assumption) ?_
        simp only [Act.put, List.setIfInBounds_toArray, List.set_cons_zero, List.set_cons_succ]
        refine take_oneH 39 (i := 4) (v := .pointer (some ⟨b, 2, none⟩)) rfl rfl (by kernel_rfl) (by kernel_rfl) (by kernel_rfl) (fun _ _ _ h => h) (Or.inl ⟨by kernel_rfl, fun w hSw => by (go_simp)⟩) (by assumption) ?_
        simp only [Act.put, List.setIfInBounds_toArray, List.set_cons_zero, List.set_cons_succ]
        refine take_oneH 42 (i := 7) (v := .string s) rfl rfl (by kernel_rfl) (by kernel_rfl) (by kernel_rfl) (fun _ _ _ h => h) (Or.inl ⟨by kernel_rfl, fun w hSw => by (go_simp)⟩) (by assumption) ?_
        simp only [Act.put, List.setIfInBounds_toArray, List.set_cons_zero, List.set_cons_succ]
        refine take_oneH 43 (i := 8) (v := .pointer (some ⟨w.heap.size, 1, none⟩)) rfl rfl (by kernel_rfl) (by kernel_rfl) (by kernel_rfl) (fun _ _ _ h => h) (Or.inl ⟨by kernel_rfl, fun w hSw => by (go_simp)⟩) (by assumption) ?_
        simp only [Act.put, List.setIfInBounds_toArray, List.set_cons_zero, List.set_cons_succ]
        refine take_oneH 44 (i := 9) (v := .int .i64 (nn : Int)) rfl rfl (by kernel_rfl) (by kernel_rfl) (by kernel_rfl) (fun _ _ _ h => h) (Or.inl ⟨by kernel_rfl, fun w hSw => by (go_simp)⟩) (by assumption) ?_
        simp only [Act.put, List.setIfInBounds_toArray, List.set_cons_zero, List.set_cons_succ]
        refine take_oneH 45 (i := 10) (v := .agg #[.string s, .int .i64 (nn : Int)]) rfl rfl (by kernel_rfl) (by kernel_rfl) (by kernel_rfl) (fun _ _ _ h => h) (Or.inl ⟨by kernel_rfl, fun w hSw => by (go_simp)⟩) (by assumption) ?_
        simp only [Act.put, List.setIfInBounds_toArray, List.set_cons_zero, List.set_cons_succ]
        refine wpAnyH_ready (rs := [1, 5, 11]) (by kernel_rfl) (by simp) ?_
        refine AllReadyH.cons rfl (fun K hK => ?_) (AllReadyH.cons rfl (fun K hK => ?_) (AllReadyH.cons rfl (fun K hK => ?_) (AllReadyH.nil)))
        · go_simp
          have hB1 : Below wd.heap.size wd (wd.alloc (.cells #[] 62)) := hBd2.alloc hBd2.size _
          have O1 : (wd.alloc (.cells #[] 62)).ownsRow wd.heap.size 62 2 (.slice (some ⟨wd.heap.size, 0, none⟩) 0 0) 0 [] := by
            have h := World.ownsRow_made (e := 62) (size := 2) wd #[] 0 hBd2.size (by decide) rfl
            simpa using h
          refine hK.out _ _ (HALL.out _ hB1) (fun hHeld => ?_)
          clear hK K
          try simp only [Act.put, List.setIfInBounds_toArray, List.set_cons_zero, List.set_cons_succ]
          refine wpAnyH_ready (rs := [5, 11]) (by kernel_rfl) (by simp) ?_
          refine AllReadyH.cons rfl (fun K hK => ?_) (AllReadyH.cons rfl (fun K hK => ?_) (AllReadyH.nil))
          · have l2 := HLW.out _ hB1
            go_simp
            refine hK.out _ _ (HALL.out _ hB1) (fun hHeld => ?_)
            clear hK K
            try simp only [Act.put, List.setIfInBounds_toArray, List.set_cons_zero, List.set_cons_succ]
            refine wpAnyH_ready (rs := [6, 11]) (by kernel_rfl) (by simp) ?_
            refine AllReadyH.cons rfl (fun K hK => ?_) (AllReadyH.cons rfl (fun K hK => ?_) (AllReadyH.nil))
            · refine step_append_src (w := (wd.alloc (.cells #[] 62))) (by rfl) (.tmp 36) (.tmp 40) _ (by rfl) wd.heap.size 62 i0 _ 2 24 Try.underlying30 hi0 hz0 hz1 hz2 rfl (by decide) _ 0 [] (by rfl) O1 _ T.length (lteVals T) (by rfl) (SrcAt.own (HA.out _ hB1).late) (lteVals_one T) (by have := HTL.out; unfold maxLen; omega) (by have := HTL.out; omega) hB1.size ?_
              intro v3 w3 hown hgrow hat
              have hB3 : Below wd.heap.size wd w3 := hB1.grown hgrow hB1.size (fun j ej => (O1.lt j ej).1)
              have O3 : w3.ownsRow wd.heap.size 62 2 v3 T.length (lteVals T) := by simpa using hown
              clear hown hgrow hat
              go_simp
              refine hK.out _ _ (HALL.out _ hB3) (fun hHeld => ?_)
              clear hK K
              try simp only [Act.put, List.setIfInBounds_toArray, List.set_cons_zero, List.set_cons_succ]
              refine wpAnyH_ready (rs := [11]) (by kernel_rfl) (by simp) ?_
              refine AllReadyH.cons rfl (fun K hK => ?_) (AllReadyH.nil)
              go_simp
              have hB4 : Below wd.heap.size wd (w3.alloc (.cells #[.string s, .int .i64 (nn : Int)] 62)) := hB3.alloc hB3.size _
              have X4 : (w3.alloc (.cells #[.string s, .int .i64 (nn : Int)] 62)).heap[w3.heap.size]? = some (.cells #[.string s, .int .i64 (nn : Int)] 62 (0, 0)) := by
                have h := heap_alloc_new w3 (.cells #[.string s, .int .i64 (nn : Int)] 62)
                simpa using h
              have O4 := O3.alloc (.cells #[.string s, .int .i64 (nn : Int)] 62)
              refine hK.out _ _ (HALL.out _ hB4) (fun hHeld => ?_)
              clear hK K
              try simp only [Act.put, List.setIfInBounds_toArray, List.set_cons_zero, List.set_cons_succ]
              refine wpAnyH_ready (rs := [12]) (by kernel_rfl) (by simp) ?_
              refine AllReadyH.cons rfl (fun K hK => ?_) (AllReadyH.nil)
              refine step_append_src (w := (w3.alloc (.cells #[.string s, .int .i64 (nn : Int)] 62))) (by rfl) (.tmp 41) (.tmp 46) _ (by rfl) wd.heap.size 62 i0 _ 2 24 Try.underlying30 hi0 hz0 hz1 hz2 rfl (by decide) _ T.length (lteVals T) (by rfl) O4 _ 1 [.string s, .int .i64 (nn : Int)] (by rfl) (SrcAt.blk2 X4) hone (by have := HTL.out; unfold maxLen; omega) (by have := HTL.out; omega) hB4.size ?_
              intro v5 w5 hown hgrow hat
              have hB5 : Below wd.heap.size wd w5 := hB4.grown hgrow hB4.size (fun j ej => (O4.lt j ej).1)
              obtain ⟨av, cv, rfl⟩ := row_shape hown
              have d2 := RObj.c2 (HA.out _ hB5).obj
              have f2 := RObj.fr (HA.out _ hB5).obj 2
              have HFIN := Lib.hid (And.intro hown hB5)
              clear hown hgrow hat
              go_simp
              refine hK.out _ _ (HALL.out _ hB5) (fun hHeld => ?_)
              clear hK K
              try simp only [Act.put, List.setIfInBounds_toArray, List.set_cons_zero, List.set_cons_succ]
              refine take_oneH 48 (i := 13) (v := .pointer (some ⟨b, 0, none⟩)) rfl rfl (by kernel_rfl) (by kernel_rfl) (by kernel_rfl) (fun _ _ _ h => h) (Or.inl ⟨by kernel_rfl, fun w hSw => by (go_simp)⟩) (by assumption) ?_
              simp only [Act.put, List.setIfInBounds_toArray, List.set_cons_zero, List.set_cons_succ]
              refine take_oneH 49 (i := 14) (v := .pointer (some ⟨b, 2, none⟩)) rfl rfl (by kernel_rfl) (by kernel_rfl) (by kernel_rfl) (fun _ _ _ h => h) (Or.inl ⟨by kernel_rfl, fun w hSw => by (go_simp)⟩) (by assumption) ?_
              simp only [Act.put, List.setIfInBounds_toArray, List.set_cons_zero, List.set_cons_succ]
              refine wpAnyH_ready (rs := [15]) (by kernel_rfl) (by simp) ?_
              refine AllReadyH.cons rfl (fun K hK => ?_) (AllReadyH.nil)
              go_simp
              refine hK.out _ _ (HPK.out _ _ (HALL.out _ hB5)) (fun hHeld => ?_)
              clear hK K
              try simp only [Act.put, List.setIfInBounds_toArray, List.set_cons_zero, List.set_cons_succ]
              refine wpAnyH_done (by kernel_rfl) ?_ _
              go_wp2_with fail
              go_ret
              exact hEND.out _ _ _ HFIN.out
            · go_simp
              have hB3 : Below wd.heap.size wd ((wd.alloc (.cells #[] 62)).alloc (.cells #[.string s, .int .i64 (nn : Int)] 62)) := hB1.alloc hB1.size _
              have X3 : ((wd.alloc (.cells #[] 62)).alloc (.cells #[.string s, .int .i64 (nn : Int)] 62)).heap[wd.heap.size + 1]? = some (.cells #[.string s, .int .i64 (nn : Int)] 62 (0, 0)) := by
                have h := heap_alloc_new (wd.alloc (.cells #[] 62)) (.cells #[.string s, .int .i64 (nn : Int)] 62)
                simpa using h
              have O3 := O1.alloc (.cells #[.string s, .int .i64 (nn : Int)] 62)
              refine hK.out _ _ (HALL.out _ hB3) (fun hHeld => ?_)
              clear hK K
              try simp only [Act.put, List.setIfInBounds_toArray, List.set_cons_zero, List.set_cons_succ]
              refine wpAnyH_ready (rs := [6]) (by kernel_rfl) (by simp) ?_
              refine AllReadyH.cons rfl (fun K hK => ?_) (AllReadyH.nil)
              refine step_append_src (w := ((wd.alloc (.cells #[] 62)).alloc (.cells #[.string s, .int .i64 (nn : Int)] 62))) (by rfl) (.tmp 36) (.tmp 40) _ (by rfl) wd.heap.size 62 i0 _ 2 24 Try.underlying30 hi0 hz0 hz1 hz2 rfl (by decide) _ 0 [] (by rfl) O3 _ T.length (lteVals T) (by rfl) (SrcAt.own (HA.out _ hB3).late) (lteVals_one T) (by have := HTL.out; unfold maxLen; omega) (by have := HTL.out; omega) hB3.size ?_
              intro v4 w4 hown hgrow hat
              have hB4 : Below wd.heap.size wd w4 := hB3.grown hgrow hB3.size (fun j ej => (O3.lt j ej).1)
              have O4 : w4.ownsRow wd.heap.size 62 2 v4 T.length (lteVals T) := by simpa using hown
              have X4 : w4.heap[wd.heap.size + 1]? = some (.cells #[.string s, .int .i64 (nn : Int)] 62 (0, 0)) := (hgrow.block _ (lt_of_heap X3) (by simp [Value.ownBlock])).trans X3
              clear hown hgrow hat
              go_simp
              refine hK.out _ _ (HALL.out _ hB4) (fun hHeld => ?_)
              clear hK K
              try simp only [Act.put, List.setIfInBounds_toArray, List.set_cons_zero, List.set_cons_succ]
              refine wpAnyH_ready (rs := [12]) (by kernel_rfl) (by simp) ?_
              refine AllReadyH.cons rfl (fun K hK => ?_) (AllReadyH.nil)
              refine step_append_src (w := w4) (by rfl) (.tmp 41) (.tmp 46) _ (by rfl) wd.heap.size 62 i0 _ 2 24 Try.underlying30 hi0 hz0 hz1 hz2 rfl (by decide) _ T.length (lteVals T) (by rfl) O4 _ 1 [.string s, .int .i64 (nn : Int)] (by rfl) (SrcAt.blk2 X4) hone (by have := HTL.out; unfold maxLen; omega) (by have := HTL.out; omega) hB4.size ?_
              intro v5 w5 hown hgrow hat
              have hB5 : Below wd.heap.size wd w5 := hB4.grown hgrow hB4.size (fun j ej => (O4.lt j ej).1)
              obtain ⟨av, cv, rfl⟩ := row_shape hown
              have d2 := RObj.c2 (HA.out _ hB5).obj
              have f2 := RObj.fr (HA.out _ hB5).obj 2
              have HFIN := Lib.hid (And.intro hown hB5)
              clear hown hgrow hat
              go_simp
              refine hK.out _ _ (HALL.out _ hB5) (fun hHeld => ?_)
              clear hK K
              try simp only [Act.put, List.setIfInBounds_toArray, List.set_cons_zero, List.set_cons_succ]
              refine take_oneH 48 (i := 13) (v := .pointer (some ⟨b, 0, none⟩)) rfl rfl (by kernel_rfl) (by kernel_rfl) (by kernel_rfl) (fun _ _ _ h => h) (Or.inl ⟨by kernel_rfl, fun w hSw => by (go_simp)⟩) (by assumption) ?_
              simp only [Act.put, List.setIfInBounds_toArray, List.set_cons_zero, List.set_cons_succ]
              refine take_oneH 49 (i := 14) (v := .pointer (some ⟨b, 2, none⟩)) rfl rfl (by kernel_rfl) (by kernel_rfl) (by kernel_rfl) (fun _ _ _ h => h) (Or.inl ⟨by kernel_rfl, fun w hSw => by (go_simp)⟩) (by assumption) ?_
              simp only [Act.put, List.setIfInBounds_toArray, List.set_cons_zero, List.set_cons_succ]
              refine wpAnyH_ready (rs := [15]) (by kernel_rfl) (by simp) ?_
              refine AllReadyH.cons rfl (fun K hK => ?_) (AllReadyH.nil)
              go_simp
              refine hK.out _ _ (HPK.out _ _ (HALL.out _ hB5)) (fun hHeld => ?_)
              clear hK K
              try simp only [Act.put, List.setIfInBounds_toArray, List.set_cons_zero, List.set_cons_succ]
              refine wpAnyH_done (by kernel_rfl) ?_ _
              go_wp2_with fail
              go_ret
              exact hEND.out _ _ _ HFIN.out
          · go_simp
            have hB2 : Below wd.heap.size wd ((wd.alloc (.cells #[] 62)).alloc (.cells #[.string s, .int .i64 (nn : Int)] 62)) := hB1.alloc hB1.size _
            have X2 : ((wd.alloc (.cells #[] 62)).alloc (.cells #[.string s, .int .i64 (nn : Int)] 62)).heap[wd.heap.size + 1]? = some (.cells #[.string s, .int .i64 (nn : Int)] 62 (0, 0)) := by
              have h := heap_alloc_new (wd.alloc (.cells #[] 62)) (.cells #[.string s, .int .i64 (nn : Int)] 62)
              simpa using h
            have O2 := O1.alloc (.cells #[.string s, .int .i64 (nn : Int)] 62)
            refine hK.out _ _ (HALL.out _ hB2) (fun hHeld => ?_)
            clear hK K
            try simp only [Act.put, List.setIfInBounds_toArray, List.set_cons_zero, List.set_cons_succ]
            refine wpAnyH_ready (rs := [5]) (by kernel_rfl) (by simp) ?_
            refine AllReadyH.cons rfl (fun K hK => ?_) (AllReadyH.nil)
            have l3 := HLW.out _ hB2
            go_simp
            refine hK.out _ _ (HALL.out _ hB2) (fun hHeld => ?_)
            clear hK K
            try simp only [Act.put, List.setIfInBounds_toArray, List.set_cons_zero, List.set_cons_succ]
            refine wpAnyH_ready (rs := [6]) (by kernel_rfl) (by simp) ?_
            refine AllReadyH.cons rfl (fun K hK => ?_) (AllReadyH.nil)
            refine step_append_src (w := ((wd.alloc (.cells #[] 62)).alloc (.cells #[.string s, .int .i64 (nn : Int)] 62))) (by rfl) (.tmp 36) (.tmp 40) _ (by rfl) wd.heap.size 62 i0 _ 2 24 Try.underlying30 hi0 hz0 hz1 hz2 rfl (by decide) _ 0 [] (by rfl) O2 _ T.length (lteVals T) (by rfl) (SrcAt.own (HA.out _ hB2).late) (lteVals_one T) (by have := HTL.out; unfold maxLen; omega) (by have := HTL.out; omega) hB2.size ?_
            intro v4 w4 hown hgrow hat
            have hB4 : Below wd.heap.size wd w4 := hB2.grown hgrow hB2.size (fun j ej => (O2.lt j ej).1)
            have O4 : w4.ownsRow wd.heap.size 62 2 v4 T.length (lteVals T) := by simpa using hown
            have X4 : w4.heap[wd.heap.size + 1]? = some (.cells #[.string s, .int .i64 (nn : Int)] 62 (0, 0)) := (hgrow.block _ (lt_of_heap X2) (by simp [Value.ownBlock])).trans X2
            clear hown hgrow hat
            go_simp
            refine hK.out _ _ (HALL.out _ hB4) (fun hHeld => ?_)
            clear hK K
            try simp only [Act.put, List.setIfInBounds_toArray, List.set_cons_zero, List.set_cons_succ]
            refine wpAnyH_ready (rs := [12]) (by kernel_rfl) (by simp) ?_
            refine AllReadyH.cons rfl (fun K hK => ?_) (AllReadyH.nil)
            refine step_append_src (w := w4) (by rfl) (.tmp 41) (.tmp 46) _ (by rfl) wd.heap.size 62 i0 _ 2 24 Try.underlying30 hi0 hz0 hz1 hz2 rfl (by decide) _ T.length (lteVals T) (by rfl) O4 _ 1 [.string s, .int .i64 (nn : Int)] (by rfl) (SrcAt.blk2 X4) hone (by have := HTL.out; unfold maxLen; omega) (by have := HTL.out; omega) hB4.size ?_
            intro v5 w5 hown hgrow hat
            have hB5 : Below wd.heap.size wd w5 := hB4.grown hgrow hB4.size (fun j ej => (O4.lt j ej).1)
            obtain ⟨av, cv, rfl⟩ := row_shape hown
            have d2 := RObj.c2 (HA.out _ hB5).obj
            have f2 := RObj.fr (HA.out _ hB5).obj 2
            have HFIN := Lib.hid (And.intro hown hB5)
            clear hown hgrow hat
            go_simp
            refine hK.out _ _ (HALL.out _ hB5) (fun hHeld => ?_)
            clear hK K
            try simp only [Act.put, List.setIfInBounds_toArray, List.set_cons_zero, List.set_cons_succ]
            refine take_oneH 48 (i := 13) (v := .pointer (some ⟨b, 0, none⟩)) rfl rfl (by kernel_rfl) (by kernel_rfl) (by kernel_rfl) (fun _ _ _ h => h) (Or.inl ⟨by kernel_rfl, fun w hSw => by (go_simp)⟩) (by assumption) ?_
            simp only [Act.put, List.setIfInBounds_toArray, List.set_cons_zero, List.set_cons_succ]
            refine take_oneH 49 (i := 14) (v := .pointer (some ⟨b, 2, none⟩)) rfl rfl (by kernel_rfl) (by kernel_rfl) (by kernel_rfl) (fun _ _ _ h => h) (Or.inl ⟨by kernel_rfl, fun w hSw => by (go_simp)⟩) (by assumption) ?_
            simp only [Act.put, List.setIfInBounds_toArray, List.set_cons_zero, List.set_cons_succ]
            refine wpAnyH_ready (rs := [15]) (by kernel_rfl) (by simp) ?_
            refine AllReadyH.cons rfl (fun K hK => ?_) (AllReadyH.nil)
            go_simp
            refine hK.out _ _ (HPK.out _ _ (HALL.out _ hB5)) (fun hHeld => ?_)
            clear hK K
            try simp only [Act.put, List.setIfInBounds_toArray, List.set_cons_zero, List.set_cons_succ]
            refine wpAnyH_done (by kernel_rfl) ?_ _
            go_wp2_with fail
            go_ret
            exact hEND.out _ _ _ HFIN.out
        · have l1 := HLW.out _ hBd2
          go_simp
          refine hK.out _ _ (HALL.out _ hBd2) (fun hHeld => ?_)
          clear hK K
          try simp only [Act.put, List.setIfInBounds_toArray, List.set_cons_zero, List.set_cons_succ]
          refine wpAnyH_ready (rs := [1, 11]) (by kernel_rfl) (by simp) ?_
          refine AllReadyH.cons rfl (fun K hK => ?_) (AllReadyH.cons rfl (fun K hK => ?_) (AllReadyH.nil))
          · go_simp
            have hB2 : Below wd.heap.size wd (wd.alloc (.cells #[] 62)) := hBd2.alloc hBd2.size _
            have O2 : (wd.alloc (.cells #[] 62)).ownsRow wd.heap.size 62 2 (.slice (some ⟨wd.heap.size, 0, none⟩) 0 0) 0 [] := by
              have h := World.ownsRow_made (e := 62) (size := 2) wd #[] 0 hBd2.size (by decide) rfl
              simpa using h
            refine hK.out _ _ (HALL.out _ hB2) (fun hHeld => ?_)
            clear hK K
            try simp only [Act.put, List.setIfInBounds_toArray, List.set_cons_zero, List.set_cons_succ]
            refine wpAnyH_ready (rs := [6, 11]) (by kernel_rfl) (by simp) ?_
            refine AllReadyH.cons rfl (fun K hK => ?_) (AllReadyH.cons rfl (fun K hK => ?_) (AllReadyH.nil))
            · refine step_append_src (w := (wd.alloc (.cells #[] 62))) (by rfl) (.tmp 36) (.tmp 40) _ (by rfl) wd.heap.size 62 i0 _ 2 24 Try.underlying30 hi0 hz0 hz1 hz2 rfl (by decide) _ 0 [] (by rfl) O2 _ T.length (lteVals T) (by rfl) (SrcAt.own (HA.out _ hB2).late) (lteVals_one T) (by have := HTL.out; unfold maxLen; omega) (by have := HTL.out; omega) hB2.size ?_
              intro v3 w3 hown hgrow hat
              have hB3 : Below wd.heap.size wd w3 := hB2.grown hgrow hB2.size (fun j ej => (O2.lt j ej).1)
              have O3 : w3.ownsRow wd.heap.size 62 2 v3 T.length (lteVals T) := by simpa using hown
              clear hown hgrow hat
              go_simp
              refine hK.out _ _ (HALL.out _ hB3) (fun hHeld => ?_)
              clear hK K
              try simp only [Act.put, List.setIfInBounds_toArray, List.set_cons_zero, List.set_cons_succ]
              refine wpAnyH_ready (rs := [11]) (by kernel_rfl) (by simp) ?_
              refine AllReadyH.cons rfl (fun K hK => ?_) (AllReadyH.nil)
              go_simp
              have hB4 : Below wd.heap.size wd (w3.alloc (.cells #[.string s, .int .i64 (nn : Int)] 62)) := hB3.alloc hB3.size _
              have X4 : (w3.alloc (.cells #[.string s, .int .i64 (nn : Int)] 62)).heap[w3.heap.size]? = some (.cells #[.string s, .int .i64 (nn : Int)] 62 (0, 0)) := by
                have h := heap_alloc_new w3 (.cells #[.string s, .int .i64 (nn : Int)] 62)
                simpa using h
              have O4 := O3.alloc (.cells #[.string s, .int .i64 (nn : Int)] 62)
              refine hK.out _ _ (HALL.out _ hB4) (fun hHeld => ?_)
              clear hK K
              try simp only [Act.put, List.setIfInBounds_toArray, List.set_cons_zero, List.set_cons_succ]
              refine wpAnyH_ready (rs := [12]) (by kernel_rfl) (by simp) ?_
              refine AllReadyH.cons rfl (fun K hK => ?_) (AllReadyH.nil)
              refine step_append_src (w := (w3.alloc (.cells #[.string s, .int .i64 (nn : Int)] 62))) (by rfl) (.tmp 41) (.tmp 46) _ (by rfl) wd.heap.size 62 i0 _ 2 24 Try.underlying30 hi0 hz0 hz1 hz2 rfl (by decide) _ T.length (lteVals T) (by rfl) O4 _ 1 [.string s, .int .i64 (nn : Int)] (by rfl) (SrcAt.blk2 X4) hone (by have := HTL.out; unfold maxLen; omega) (by have := HTL.out; omega) hB4.size ?_
              intro v5 w5 hown hgrow hat
              have hB5 : Below wd.heap.size wd w5 := hB4.grown hgrow hB4.size (fun j ej => (O4.lt j ej).1)
              obtain ⟨av, cv, rfl⟩ := row_shape hown
              have d2 := RObj.c2 (HA.out _ hB5).obj
              have f2 := RObj.fr (HA.out _ hB5).obj 2
              have HFIN := Lib.hid (And.intro hown hB5)
              clear hown hgrow hat
              go_simp
              refine hK.out _ _ (HALL.out _ hB5) (fun hHeld => ?_)
              clear hK K
              try simp only [Act.put, List.setIfInBounds_toArray, List.set_cons_zero, List.set_cons_succ]
              refine take_oneH 48 (i := 13) (v := .pointer (some ⟨b, 0, none⟩)) rfl rfl (by kernel_rfl) (by kernel_rfl) (by kernel_rfl) (fun _ _ _ h => h) (Or.inl ⟨by kernel_rfl, fun w hSw => by (go_simp)⟩) (by assumption) ?_
              simp only [Act.put, List.setIfInBounds_toArray, List.set_cons_zero, List.set_cons_succ]
              refine take_oneH 49 (i := 14) (v := .pointer (some ⟨b, 2, none⟩)) rfl rfl (by kernel_rfl) (by kernel_rfl) (by kernel_rfl) (fun _ _ _ h => h) (Or.inl ⟨by kernel_rfl, fun w hSw => by (go_simp)⟩) (by assumption) ?_
              simp only [Act.put, List.setIfInBounds_toArray, List.set_cons_zero, List.set_cons_succ]
              refine wpAnyH_ready (rs := [15]) (by kernel_rfl) (by simp) ?_
              refine AllReadyH.cons rfl (fun K hK => ?_) (AllReadyH.nil)
              go_simp
              refine hK.out _ _ (HPK.out _ _ (HALL.out _ hB5)) (fun hHeld => ?_)
              clear hK K
              try simp only [Act.put, List.setIfInBounds_toArray, List.set_cons_zero, List.set_cons_succ]
              refine wpAnyH_done (by kernel_rfl) ?_ _
              go_wp2_with fail
              go_ret
              exact hEND.out _ _ _ HFIN.out
            · go_simp
              have hB3 : Below wd.heap.size wd ((wd.alloc (.cells #[] 62)).alloc (.cells #[.string s, .int .i64 (nn : Int)] 62)) := hB2.alloc hB2.size _
              have X3 : ((wd.alloc (.cells #[] 62)).alloc (.cells #[.string s, .int .i64 (nn : Int)] 62)).heap[wd.heap.size + 1]? = some (.cells #[.string s, .int .i64 (nn : Int)] 62 (0, 0)) := by
                have h := heap_alloc_new (wd.alloc (.cells #[] 62)) (.cells #[.string s, .int .i64 (nn : Int)] 62)
                simpa using h
              have O3 := O2.alloc (.cells #[.string s, .int .i64 (nn : Int)] 62)
              refine hK.out _ _ (HALL.out _ hB3) (fun hHeld => ?_)
              clear hK K
              try simp only [Act.put, List.setIfInBounds_toArray, List.set_cons_zero, List.set_cons_succ]
              refine wpAnyH_ready (rs := [6]) (by kernel_rfl) (by simp) ?_
              refine AllReadyH.cons rfl (fun K hK => ?_) (AllReadyH.nil)
              refine step_append_src (w := ((wd.alloc (.cells #[] 62)).alloc (.cells #[.string s, .int .i64 (nn : Int)] 62))) (by rfl) (.tmp 36) (.tmp 40) _ (by rfl) wd.heap.size 62 i0 _ 2 24 Try.underlying30 hi0 hz0 hz1 hz2 rfl (by decide) _ 0 [] (by rfl) O3 _ T.length (lteVals T) (by rfl) (SrcAt.own (HA.out _ hB3).late) (lteVals_one T) (by have := HTL.out; unfold maxLen; omega) (by have := HTL.out; omega) hB3.size ?_
              intro v4 w4 hown hgrow hat
              have hB4 : Below wd.heap.size wd w4 := hB3.grown hgrow hB3.size (fun j ej => (O3.lt j ej).1)
              have O4 : w4.ownsRow wd.heap.size 62 2 v4 T.length (lteVals T) := by simpa using hown
              have X4 : w4.heap[wd.heap.size + 1]? = some (.cells #[.string s, .int .i64 (nn : Int)] 62 (0, 0)) := (hgrow.block _ (lt_of_heap X3) (by simp [Value.ownBlock])).trans X3
              clear hown hgrow hat
              go_simp
              refine hK.out _ _ (HALL.out _ hB4) (fun hHeld => ?_)
              clear hK K
              try simp only [Act.put, List.setIfInBounds_toArray, List.set_cons_zero, List.set_cons_succ]
              refine wpAnyH_ready (rs := [12]) (by kernel_rfl) (by simp) ?_
              refine AllReadyH.cons rfl (fun K hK => ?_) (AllReadyH.nil)
              refine step_append_src (w := w4) (by rfl) (.tmp 41) (.tmp 46) _ (by rfl) wd.heap.size 62 i0 _ 2 24 Try.underlying30 hi0 hz0 hz1 hz2 rfl (by decide) _ T.length (lteVals T) (by rfl) O4 _ 1 [.string s, .int .i64 (nn : Int)] (by rfl) (SrcAt.blk2 X4) hone (by have := HTL.out; unfold maxLen; omega) (by have := HTL.out; omega) hB4.size ?_
              intro v5 w5 hown hgrow hat
              have hB5 : Below wd.heap.size wd w5 := hB4.grown hgrow hB4.size (fun j ej => (O4.lt j ej).1)
              obtain ⟨av, cv, rfl⟩ := row_shape hown
              have d2 := RObj.c2 (HA.out _ hB5).obj
              have f2 := RObj.fr (HA.out _ hB5).obj 2
              have HFIN := Lib.hid (And.intro hown hB5)
              clear hown hgrow hat
              go_simp
              refine hK.out _ _ (HALL.out _ hB5) (fun hHeld => ?_)
              clear hK K
              try simp only [Act.put, List.setIfInBounds_toArray, List.set_cons_zero, List.set_cons_succ]
              refine take_oneH 48 (i := 13) (v := .pointer (some ⟨b, 0, none⟩)) rfl rfl (by kernel_rfl) (by kernel_rfl) (by kernel_rfl) (fun _ _ _ h => h) (Or.inl ⟨by kernel_rfl, fun w hSw => by (go_simp)⟩) (by assumption) ?_
              simp only [Act.put, List.setIfInBounds_toArray, List.set_cons_zero, List.set_cons_succ]
              refine take_oneH 49 (i := 14) (v := .pointer (some ⟨b, 2, none⟩)) rfl rfl (by kernel_rfl) (by kernel_rfl) (by kernel_rfl) (fun _ _ _ h => h) (Or.inl ⟨by kernel_rfl, fun w hSw => by (go_simp)⟩) (by assumption) ?_
              simp only [Act.put, List.setIfInBounds_toArray, List.set_cons_zero, List.set_cons_succ]
              refine wpAnyH_ready (rs := [15]) (by kernel_rfl) (by simp) ?_
              refine AllReadyH.cons rfl (fun K hK => ?_) (AllReadyH.nil)
              go_simp
              refine hK.out _ _ (HPK.out _ _ (HALL.out _ hB5)) (fun hHeld => ?_)
              clear hK K
              try simp only [Act.put, List.setIfInBounds_toArray, List.set_cons_zero, List.set_cons_succ]
              refine wpAnyH_done (by kernel_rfl) ?_ _
              go_wp2_with fail
              go_ret
              exact hEND.out _ _ _ HFIN.out
          · go_simp
            have hB2 : Below wd.heap.size wd (wd.alloc (.cells #[.string s, .int .i64 (nn : Int)] 62)) := hBd2.alloc hBd2.size _
            have X2 : (wd.alloc (.cells #[.string s, .int .i64 (nn : Int)] 62)).heap[wd.heap.size]? = some (.cells #[.string s, .int .i64 (nn : Int)] 62 (0, 0)) := by
              have h := heap_alloc_new wd (.cells #[.string s, .int .i64 (nn : Int)] 62)
              simpa using h
            refine hK.out _ _ (HALL.out _ hB2) (fun hHeld => ?_)
            clear hK K
            try simp only [Act.put, List.setIfInBounds_toArray, List.set_cons_zero, List.set_cons_succ]
            refine wpAnyH_ready (rs := [1]) (by kernel_rfl) (by simp) ?_
            refine AllReadyH.cons rfl (fun K hK => ?_) (AllReadyH.nil)
            go_simp
            have hB3 : Below wd.heap.size wd ((wd.alloc (.cells #[.string s, .int .i64 (nn : Int)] 62)).alloc (.cells #[] 62)) := hB2.alloc hB2.size _
            have O3 : ((wd.alloc (.cells #[.string s, .int .i64 (nn : Int)] 62)).alloc (.cells #[] 62)).ownsRow wd.heap.size 62 2 (.slice (some ⟨wd.heap.size + 1, 0, none⟩) 0 0) 0 [] := by
              have h := World.ownsRow_made (e := 62) (size := 2) (wd.alloc (.cells #[.string s, .int .i64 (nn : Int)] 62)) #[] 0 hB2.size (by decide) rfl
              simpa using h
            have X3 := heap_alloc_old X2 (.cells #[] 62)
            refine hK.out _ _ (HALL.out _ hB3) (fun hHeld => ?_)
            clear hK K
            try simp only [Act.put, List.setIfInBounds_toArray, List.set_cons_zero, List.set_cons_succ]
            refine wpAnyH_ready (rs := [6]) (by kernel_rfl) (by simp) ?_
            refine AllReadyH.cons rfl (fun K hK => ?_) (AllReadyH.nil)
            refine step_append_src (w := ((wd.alloc (.cells #[.string s, .int .i64 (nn : Int)] 62)).alloc (.cells #[] 62))) (by rfl) (.tmp 36) (.tmp 40) _ (by rfl) wd.heap.size 62 i0 _ 2 24 Try.underlying30 hi0 hz0 hz1 hz2 rfl (by decide) _ 0 [] (by rfl) O3 _ T.length (lteVals T) (by rfl) (SrcAt.own (HA.out _ hB3).late) (lteVals_one T) (by have := HTL.out; unfold maxLen; omega) (by have := HTL.out; omega) hB3.size ?_
            intro v4 w4 hown hgrow hat
            have hB4 : Below wd.heap.size wd w4 := hB3.grown hgrow hB3.size (fun j ej => (O3.lt j ej).1)
            have O4 : w4.ownsRow wd.heap.size 62 2 v4 T.length (lteVals T) := by simpa using hown
            have X4 : w4.heap[wd.heap.size]? = some (.cells #[.string s, .int .i64 (nn : Int)] 62 (0, 0)) := (hgrow.block _ (lt_of_heap X3) (by simp [Value.ownBlock])).trans X3
            clear hown hgrow hat
            go_simp
            refine hK.out _ _ (HALL.out _ hB4) (fun hHeld => ?_)
            clear hK K
            try simp only [Act.put, List.setIfInBounds_toArray, List.set_cons_zero, List.set_cons_succ]
            refine wpAnyH_ready (rs := [12]) (by kernel_rfl) (by simp) ?_
            refine AllReadyH.cons rfl (fun K hK => ?_) (AllReadyH.nil)
            refine step_append_src (w := w4) (by rfl) (.tmp 41) (.tmp 46) _ (by rfl) wd.heap.size 62 i0 _ 2 24 Try.underlying30 hi0 hz0 hz1 hz2 rfl (by decide) _ T.length (lteVals T) (by rfl) O4 _ 1 [.string s, .int .i64 (nn : Int)] (by rfl) (SrcAt.blk2 X4) hone (by have := HTL.out; unfold maxLen; omega) (by have := HTL.out; omega) hB4.size ?_
            intro v5 w5 hown hgrow hat
            have hB5 : Below wd.heap.size wd w5 := hB4.grown hgrow hB4.size (fun j ej => (O4.lt j ej).1)
            obtain ⟨av, cv, rfl⟩ := row_shape hown
            have d2 := RObj.c2 (HA.out _ hB5).obj
            have f2 := RObj.fr (HA.out _ hB5).obj 2
            have HFIN := Lib.hid (And.intro hown hB5)
            clear hown hgrow hat
            go_simp
            refine hK.out _ _ (HALL.out _ hB5) (fun hHeld => ?_)
            clear hK K
            try simp only [Act.put, List.setIfInBounds_toArray, List.set_cons_zero, List.set_cons_succ]
            refine take_oneH 48 (i := 13) (v := .pointer (some ⟨b, 0, none⟩)) rfl rfl (by kernel_rfl) (by kernel_rfl) (by kernel_rfl) (fun _ _ _ h => h) (Or.inl ⟨by kernel_rfl, fun w hSw => by (go_simp)⟩) (by assumption) ?_
            simp only [Act.put, List.setIfInBounds_toArray, List.set_cons_zero, List.set_cons_succ]
            refine take_oneH 49 (i := 14) (v := .pointer (some ⟨b, 2, none⟩)) rfl rfl (by kernel_rfl) (by kernel_rfl) (by kernel_rfl) (fun _ _ _ h => h) (Or.inl ⟨by kernel_rfl, fun w hSw => by (go_simp)⟩) (by assumption) ?_
            simp only [Act.put, List.setIfInBounds_toArray, List.set_cons_zero, List.set_cons_succ]
            refine wpAnyH_ready (rs := [15]) (by kernel_rfl) (by simp) ?_
            refine AllReadyH.cons rfl (fun K hK => ?_) (AllReadyH.nil)
            go_simp
            refine hK.out _ _ (HPK.out _ _ (HALL.out _ hB5)) (fun hHeld => ?_)
            clear hK K
            try simp only [Act.put, List.setIfInBounds_toArray, List.set_cons_zero, List.set_cons_succ]
            refine wpAnyH_done (by kernel_rfl) ?_ _
            go_wp2_with fail
            go_ret
            exact hEND.out _ _ _ HFIN.out
        · go_simp
          have hB1 : Below wd.heap.size wd (wd.alloc (.cells #[.string s, .int .i64 (nn : Int)] 62)) := hBd2.alloc hBd2.size _
          have X1 : (wd.alloc (.cells #[.string s, .int .i64 (nn : Int)] 62)).heap[wd.heap.size]? = some (.cells #[.string s, .int .i64 (nn : Int)] 62 (0, 0)) := by
            have h := heap_alloc_new wd (.cells #[.string s, .int .i64 (nn : Int)] 62)
            simpa using h
          refine hK.out _ _ (HALL.out _ hB1) (fun hHeld => ?_)
          clear hK K
          try simp only [Act.put, List.setIfInBounds_toArray, List.set_cons_zero, List.set_cons_succ]
          refine wpAnyH_ready (rs := [1, 5]) (by kernel_rfl) (by simp) ?_
          refine AllReadyH.cons rfl (fun K hK => ?_) (AllReadyH.cons rfl (fun K hK => ?_) (AllReadyH.nil))
          · go_simp
            have hB2 : Below wd.heap.size wd ((wd.alloc (.cells #[.string s, .int .i64 (nn : Int)] 62)).alloc (.cells #[] 62)) := hB1.alloc hB1.size _
            have O2 : ((wd.alloc (.cells #[.string s, .int .i64 (nn : Int)] 62)).alloc (.cells #[] 62)).ownsRow wd.heap.size 62 2 (.slice (some ⟨wd.heap.size + 1, 0, none⟩) 0 0) 0 [] := by
              have h := World.ownsRow_made (e := 62) (size := 2) (wd.alloc (.cells #[.string s, .int .i64 (nn : Int)] 62)) #[] 0 hB1.size (by decide) rfl
              simpa using h
            have X2 := heap_alloc_old X1 (.cells #[] 62)
            refine hK.out _ _ (HALL.out _ hB2) (fun hHeld => ?_)
            clear hK K
            try simp only [Act.put, List.setIfInBounds_toArray, List.set_cons_zero, List.set_cons_succ]
            refine wpAnyH_ready (rs := [5]) (by kernel_rfl) (by simp) ?_
            refine AllReadyH.cons rfl (fun K hK => ?_) (AllReadyH.nil)
            have l3 := HLW.out _ hB2
            go_simp
            refine hK.out _ _ (HALL.out _ hB2) (fun hHeld => ?_)
            clear hK K
            try simp only [Act.put, List.setIfInBounds_toArray, List.set_cons_zero, List.set_cons_succ]
            refine wpAnyH_ready (rs := [6]) (by kernel_rfl) (by simp) ?_
            refine AllReadyH.cons rfl (fun K hK => ?_) (AllReadyH.nil)
            refine step_append_src (w := ((wd.alloc (.cells #[.string s, .int .i64 (nn : Int)] 62)).alloc (.cells #[] 62))) (by rfl) (.tmp 36) (.tmp 40) _ (by rfl) wd.heap.size 62 i0 _ 2 24 Try.underlying30 hi0 hz0 hz1 hz2 rfl (by decide) _ 0 [] (by rfl) O2 _ T.length (lteVals T) (by rfl) (SrcAt.own (HA.out _ hB2).late) (lteVals_one T) (by have := HTL.out; unfold maxLen; omega) (by have := HTL.out; omega) hB2.size ?_
            intro v4 w4 hown hgrow hat
            have hB4 : Below wd.heap.size wd w4 := hB2.grown hgrow hB2.size (fun j ej => (O2.lt j ej).1)
            have O4 : w4.ownsRow wd.heap.size 62 2 v4 T.length (lteVals T) := by simpa using hown
            have X4 : w4.heap[wd.heap.size]? = some (.cells #[.string s, .int .i64 (nn : Int)] 62 (0, 0)) := (hgrow.block _ (lt_of_heap X2) (by simp [Value.ownBlock])).trans X2
            clear hown hgrow hat
            go_simp
            refine hK.out _ _ (HALL.out _ hB4) (fun hHeld => ?_)
            clear hK K
            try simp only [Act.put, List.setIfInBounds_toArray, List.set_cons_zero, List.set_cons_succ]
            refine wpAnyH_ready (rs := [12]) (by kernel_rfl) (by simp) ?_
            refine AllReadyH.cons rfl (fun K hK => ?_) (AllReadyH.nil)
            refine step_append_src (w := w4) (by rfl) (.tmp 41) (.tmp 46) _ (by rfl) wd.heap.size 62 i0 _ 2 24 Try.underlying30 hi0 hz0 hz1 hz2 rfl (by decide) _ T.length (lteVals T) (by rfl) O4 _ 1 [.string s, .int .i64 (nn : Int)] (by rfl) (SrcAt.blk2 X4) hone (by have := HTL.out; unfold maxLen; omega) (by have := HTL.out; omega) hB4.size ?_
            intro v5 w5 hown hgrow hat
            have hB5 : Below wd.heap.size wd w5 := hB4.grown hgrow hB4.size (fun j ej => (O4.lt j ej).1)
            obtain ⟨av, cv, rfl⟩ := row_shape hown
            have d2 := RObj.c2 (HA.out _ hB5).obj
            have f2 := RObj.fr (HA.out _ hB5).obj 2
            have HFIN := Lib.hid (And.intro hown hB5)
            clear hown hgrow hat
            go_simp
            refine hK.out _ _ (HALL.out _ hB5) (fun hHeld => ?_)
            clear hK K
            try simp only [Act.put, List.setIfInBounds_toArray, List.set_cons_zero, List.set_cons_succ]
            refine take_oneH 48 (i := 13) (v := .pointer (some ⟨b, 0, none⟩)) rfl rfl (by kernel_rfl) (by kernel_rfl) (by kernel_rfl) (fun _ _ _ h => h) (Or.inl ⟨by kernel_rfl, fun w hSw => by (go_simp)⟩) (by assumption) ?_
            simp only [Act.put, List.setIfInBounds_toArray, List.set_cons_zero, List.set_cons_succ]
            refine take_oneH 49 (i := 14) (v := .pointer (some ⟨b, 2, none⟩)) rfl rfl (by kernel_rfl) (by kernel_rfl) (by kernel_rfl) (fun _ _ _ h => h) (Or.inl ⟨by kernel_rfl, fun w hSw => by (go_simp)⟩) (by assumption) ?_
            simp only [Act.put, List.setIfInBounds_toArray, List.set_cons_zero, List.set_cons_succ]
            refine wpAnyH_ready (rs := [15]) (by kernel_rfl) (by simp) ?_
            refine AllReadyH.cons rfl (fun K hK => ?_) (AllReadyH.nil)
            go_simp
            refine hK.out _ _ (HPK.out _ _ (HALL.out _ hB5)) (fun hHeld => ?_)
            clear hK K
            try simp only [Act.put, List.setIfInBounds_toArray, List.set_cons_zero, List.set_cons_succ]
            refine wpAnyH_done (by kernel_rfl) ?_ _
            go_wp2_with fail
            go_ret
            exact hEND.out _ _ _ HFIN.out
          · have l2 := HLW.out _ hB1
            go_simp
            refine hK.out _ _ (HALL.out _ hB1) (fun hHeld => ?_)
            clear hK K
            try simp only [Act.put, List.setIfInBounds_toArray, List.set_cons_zero, List.set_cons_succ]
            refine wpAnyH_ready (rs := [1]) (by kernel_rfl) (by simp) ?_
            refine AllReadyH.cons rfl (fun K hK => ?_) (AllReadyH.nil)
            go_simp
            have hB3 : Below wd.heap.size wd ((wd.alloc (.cells #[.string s, .int .i64 (nn : Int)] 62)).alloc (.cells #[] 62)) := hB1.alloc hB1.size _
            have O3 : ((wd.alloc (.cells #[.string s, .int .i64 (nn : Int)] 62)).alloc (.cells #[] 62)).ownsRow wd.heap.size 62 2 (.slice (some ⟨wd.heap.size + 1, 0, none⟩) 0 0) 0 [] := by
              have h := World.ownsRow_made (e := 62) (size := 2) (wd.alloc (.cells #[.string s, .int .i64 (nn : Int)] 62)) #[] 0 hB1.size (by decide) rfl
              simpa using h
            have X3 := heap_alloc_old X1 (.cells #[] 62)
            refine hK.out _ _ (HALL.out _ hB3) (fun hHeld => ?_)
            clear hK K
            try simp only [Act.put, List.setIfInBounds_toArray, List.set_cons_zero, List.set_cons_succ]
            refine wpAnyH_ready (rs := [6]) (by kernel_rfl) (by simp) ?_
            refine AllReadyH.cons rfl (fun K hK => ?_) (AllReadyH.nil)
            refine step_append_src (w := ((wd.alloc (.cells #[.string s, .int .i64 (nn : Int)] 62)).alloc (.cells #[] 62))) (by rfl) (.tmp 36) (.tmp 40) _ (by rfl) wd.heap.size 62 i0 _ 2 24 Try.underlying30 hi0 hz0 hz1 hz2 rfl (by decide) _ 0 [] (by rfl) O3 _ T.length (lteVals T) (by rfl) (SrcAt.own (HA.out _ hB3).late) (lteVals_one T) (by have := HTL.out; unfold maxLen; omega) (by have := HTL.out; omega) hB3.size ?_
            intro v4 w4 hown hgrow hat
            have hB4 : Below wd.heap.size wd w4 := hB3.grown hgrow hB3.size (fun j ej => (O3.lt j ej).1)
            have O4 : w4.ownsRow wd.heap.size 62 2 v4 T.length (lteVals T) := by simpa using hown
            have X4 : w4.heap[wd.heap.size]? = some (.cells #[.string s, .int .i64 (nn : Int)] 62 (0, 0)) := (hgrow.block _ (lt_of_heap X3) (by simp [Value.ownBlock])).trans X3
            clear hown hgrow hat
            go_simp
            refine hK.out _ _ (HALL.out _ hB4) (fun hHeld => ?_)
            clear hK K
            try simp only [Act.put, List.setIfInBounds_toArray, List.set_cons_zero, List.set_cons_succ]
            refine wpAnyH_ready (rs := [12]) (by kernel_rfl) (by simp) ?_
            refine AllReadyH.cons rfl (fun K hK => ?_) (AllReadyH.nil)
            refine step_append_src (w := w4) (by rfl) (.tmp 41) (.tmp 46) _ (by rfl) wd.heap.size 62 i0 _ 2 24 Try.underlying30 hi0 hz0 hz1 hz2 rfl (by decide) _ T.length (lteVals T) (by rfl) O4 _ 1 [.string s, .int .i64 (nn : Int)] (by rfl) (SrcAt.blk2 X4) hone (by have := HTL.out; unfold maxLen; omega) (by have := HTL.out; omega) hB4.size ?_
            intro v5 w5 hown hgrow hat
            have hB5 : Below wd.heap.size wd w5 := hB4.grown hgrow hB4.size (fun j ej => (O4.lt j ej).1)
            obtain ⟨av, cv, rfl⟩ := row_shape hown
            have d2 := RObj.c2 (HA.out _ hB5).obj
            have f2 := RObj.fr (HA.out _ hB5).obj 2
            have HFIN := Lib.hid (And.intro hown hB5)
            clear hown hgrow hat
            go_simp
            refine hK.out _ _ (HALL.out _ hB5) (fun hHeld => ?_)
            clear hK K
            try simp only [Act.put, List.setIfInBounds_toArray, List.set_cons_zero, List.set_cons_succ]
            refine take_oneH 48 (i := 13) (v := .pointer (some ⟨b, 0, none⟩)) rfl rfl (by kernel_rfl) (by kernel_rfl) (by kernel_rfl) (fun _ _ _ h => h) (Or.inl ⟨by kernel_rfl, fun w hSw => by (go_simp)⟩) (by assumption) ?_
            simp only [Act.put, List.setIfInBounds_toArray, List.set_cons_zero, List.set_cons_succ]
            refine take_oneH 49 (i := 14) (v := .pointer (some ⟨b, 2, none⟩)) rfl rfl (by kernel_rfl) (by kernel_rfl) (by kernel_rfl) (fun _ _ _ h => h) (Or.inl ⟨by kernel_rfl, fun w hSw => by (go_simp)⟩) (by assumption) ?_
            simp only [Act.put, List.setIfInBounds_toArray, List.set_cons_zero, List.set_cons_succ]
            refine wpAnyH_ready (rs := [15]) (by kernel_rfl) (by simp) ?_
            refine AllReadyH.cons rfl (fun K hK => ?_) (AllReadyH.nil)
            go_simp
            refine hK.out _ _ (HPK.out _ _ (HALL.out _ hB5)) (fun hHeld => ?_)
            clear hK K
            try simp only [Act.put, List.setIfInBounds_toArray, List.set_cons_zero, List.set_cons_succ]
            refine wpAnyH_done (by kernel_rfl) ?_ _
            go_wp2_with fail
            go_ret
            exact hEND.out _ _ _ HFIN.out
        -- END
      · have HR := Lib.hid (show E = 180 ∧ L = SL ∧ T = ST by
          rw [HE.out, HL.out, HT.out, HN.out, HM.out]; simp [n8])
        clear h HE HL HT HN HM c2 HC
        go_enter Try.func10, Try.ntmps10
        go_wp2
        go_ret
        exact ⟨by rw [HR.out.1]; rfl, rpSame HRN.out HR.out.2.1 HR.out.2.2⟩
    · have HR := Lib.hid (show E = 180 ∧ L = SL ∧ T = ST by
          rw [HE.out, HL.out, HT.out, HN.out, HM.out]; simp [n1])
      clear h HE HL HT HN HM c2 HC
      go_enter Try.func10, Try.ntmps10
      go_wp2
      go_ret
      exact ⟨by rw [HR.out.1]; rfl, rpSame HRN.out HR.out.2.1 HR.out.2.2⟩
  by_cases h4 : K = 4
  · subst h4
    clear h0 h1 h2 h3
    by_cases n0 : 0 ≤ n
    · have HR := Lib.hid (show E = 0 ∧ comesL room L (turnB s n m) = SL ∧ T = ST by
        rw [HE.out, HL.out, HT.out, HN.out, HM.out]; simp [n0])
      by_cases hz : s.size = 0
      · obtain rfl : s = ⟨#[]⟩ := ByteArray.ext (Array.eq_empty_of_size_eq_zero hz)
        obtain ⟨cap, w5, x1, x2, hB5⟩ := byte_none w1
        have CP := rcomes_any (H.out.later hB5) hr ⟨#[]⟩
        have HS := Lib.hid (HST.out.and_below hB5)
        have HQ := Lib.hid (show comesL room L ⟨#[]⟩ = SL from HR.out.2.1)
        clear h HE HL HT HN HM c2 HC hz hB5
        go_enter Try.func10, Try.ntmps10
        go_wp2_with fail
        refine CP.mono ?_
        rintro e w2 ⟨rfl, hP⟩
        have HP := Lib.hid (RPut.trans HS.out (fun k hk => .inl hk) hP.put)
        clear hP CP
        go_wp2_with fail
        go_ret
        exact ⟨by rw [HR.out.1]; rfl, rpSame HP.out HQ.out HR.out.2.2⟩
      · obtain ⟨r1, r2, r3⟩ := rem_to n n0 s.size (by omega)
        have HTB := Lib.hid (show turnB s n m = ⟨(s.data.toList.set (n.toNat % s.size) ((s.data.toList.getD (n.toNat % s.size) 0) ^^^ m)).toArray⟩ by rw [turnB, if_neg hz])
        generalize n.toNat % s.size = k at *
        obtain ⟨cap, y, v5, w5, w6, x1, x2, x3, x4, x5, x6, rfl, rfl, hB5, hB6⟩ := byte_turnedD s k r3 m w1
        rw [← HTB.out] at x6
        have CP := rcomes_any (H.out.later hB6) hr (turnB s n m)
        have HS := Lib.hid (HST.out.and_below hB6)
        have hzi : ((s.size : Int) == 0) = false := beq_eq_false_iff_ne.2 (by omega)
        have hzp : (0 : Int) < (s.size : Int) := by omega
        have hk1 : (k : Int) < (s.size : Int) := by omega
        obtain ⟨e0, e1, e2⟩ := HC.out w5 hB5
        generalize turnB s n m = D at *
        generalize (s.data.toList.getD k 0 ^^^ m) = v5 at *
        generalize s.data.toList.getD k 0 = y at *
        clear h HE HL HT HN HM HC hz hB5 hB6 HTB
        go_enter Try.func10, Try.ntmps10
        go_wp2_with fail
        go_region
        all_goals (
          go_wp2_with fail
          refine CP.mono ?_
          rintro e w2 ⟨rfl, hP⟩
          have HP := Lib.hid (RPut.trans HS.out (fun k hk => .inl hk) hP.put)
          clear hP CP
          go_wp2_with fail
          go_ret
          exact ⟨by rw [HR.out.1]; rfl, rpSame HP.out HR.out.2.1 HR.out.2.2⟩)
    · have HR := Lib.hid (show E = 180 ∧ L = SL ∧ T = ST by
          rw [HE.out, HL.out, HT.out, HN.out, HM.out]; simp [n0])
      clear h HE HL HT HN HM c2 HC
      go_enter Try.func10, Try.ntmps10
      go_wp2
      go_ret
      exact ⟨by rw [HR.out.1]; rfl, rpSame HRN.out HR.out.2.1 HR.out.2.2⟩
  have k0 : (K == 0) = false := beq_eq_false_iff_ne.2 h0
  have k1 : (K == 1) = false := beq_eq_false_iff_ne.2 h1
  have k2 : (K == 2) = false := beq_eq_false_iff_ne.2 h2
  have k3 : (K == 3) = false := beq_eq_false_iff_ne.2 h3
  have k4 : (K == 4) = false := beq_eq_false_iff_ne.2 h4
  have HR := Lib.hid (show E = 180 ∧ L = SL ∧ T = ST by
    rw [HE.out, HL.out, HT.out, HN.out, HM.out]; simp [k0, k1, k2, k3, k4])
  clear h HE HL HT HN HM c1 c2 HC h0 h1 h2 h3 h4
  go_enter Try.func10, Try.ntmps10
  go_wp2
  go_ret
  exact ⟨by rw [HR.out.1]; rfl, rpSame HRN.out HR.out.2.1 HR.out.2.2⟩
end
end Go.Proofs.Ytiiplchakanomaa

