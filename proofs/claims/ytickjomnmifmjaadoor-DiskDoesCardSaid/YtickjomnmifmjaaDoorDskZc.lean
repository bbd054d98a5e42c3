/-
  The reference's disk: Bad.
-/
import Derived.Test.YtickjomnmifmjaaDoorDskZb
namespace Go.Proofs.YtickjomnmifmjaaDoor
open Go.RowKit Go Go.Maps SM

theorem infoInt : (Tryd.prog.info? 3).map (fun i => (i.zero, i.size, i.bytes)) = some (some (.int .i64 0), 1, 8) := by kernel_rfl
def filt (zs : List Int) (n : Int) (k : Nat) : List Int := (zs.take k).filter fun z => decide (z ≠ n)
theorem filt_skip {zs : List Int} {n : Int} {k : Nat} (h : k < zs.length) (e : zs[k] = n) : filt zs n (k + 1) = filt zs n k := by
  simp [filt, List.take_succ_eq_append_getElem h, e]
theorem filt_take {zs : List Int} {n : Int} {k : Nat} (h : k < zs.length) (e : zs[k] ≠ n) : filt zs n (k + 1) = filt zs n k ++ [zs[k]] := by
  have e2 : ([zs[k]].filter fun z => decide (z ≠ n)) = [zs[k]] := by rw [List.filter_cons, if_pos (decide_eq_true e), List.filter_nil]
  unfold filt
  rw [List.take_succ_eq_append_getElem h, List.filter_append, e2]
theorem filt_le (zs : List Int) (n : Int) (k : Nat) : (filt zs n k).length ≤ zs.length :=
  Nat.le_trans (List.length_filter_le _ _) (by rw [List.length_take]; omega)
theorem filt_mem (zs : List Int) (n j : Int) : j ∈ filt zs n zs.length ↔ j ∈ zs ∧ j ≠ n := by simp [filt]
theorem intVals_snoc (l : List Int) (z : Int) : intVals l ++ [.int .i64 z] = intVals (l ++ [z]) := by simp [intVals]

section
variable {r base : Nat} {s : DS} {zs : List Int} {v0 v1 v2 : Value} {kp : ByteArray} {w w' : World}
/-- the list of bad ones is another one -/
theorem RefAt.newBad (h : RefAt r base s zs v0 v1 v2 kp w) (hB : Below w.heap.size w w') {zs' : List Int} {v' : Value} (hr : w'.ownsRow w.heap.size 3 1 v' zs'.length (intVals zs')) (hf : zs'.length ≤ 1099511627776) {s' : DS} (hb : ∀ k, decide (k ∈ zs') = s'.bad k)
    (h1 : s'.stay = s.stay) (h2 : s'.loose = s.loose) (h3 : s'.made = s.made) (h4 : s'.armed = s.armed) (h5 : s'.keep = s.keep) (h6 : s'.dead = s.dead) :
    RefAt r base s' zs' v0 v1 v' kp (w'.setCell ⟨r, 2, none⟩ v') := by
  have h' := h.below hB
  have hlt := lt_of_heap h.obj
  refine ⟨by rw [heap_set h'.obj, h3, h4, h6]; simp [RO], by rw [h1]; exact owns_other h'.st h'.obj (by decide) _, by rw [h2]; exact owns_other h'.lo h'.obj (by decide) _, owns_other (hr.mono (by have := h.low; omega)) h'.obj (by decide) _, hb, hf, by rw [h4, h5]; exact h.keep, h.kple, h.low⟩

set_option maxRecDepth 100000 in
set_option maxHeartbeats 2000000 in
theorem rbad_at (h : RefAt r base s zs v0 v1 v2 kp w) (hk : s.Ok) (hz : zs.length < 1099511627776) (n : Int) (hn : I64 n) (f : Bool) :
    Calls Tryd.prog 26 #[.pointer (some ⟨r, 0, none⟩), .int .i64 n, .bool f] w fun e w' => e = .returned (.int .i64 (s.may n)) ∧ (∃ zs', zs'.length ≤ zs.length + 1 ∧ ∃ v2', RefAt r base (s.setBad n f) zs' v0 v1 v2' kp w') ∧ Stir (RF r v0) w w' := by
  have C1 := rmay_at h hk n hn
  have H0 := Lib.hid h
  by_cases hmay : s.may n = 0
  · rw [hmay] at C1 ⊢
    obtain ⟨i0, hi, hz0, hz1, hz2⟩ := info_parts infoInt
    have hS : s.setBad n f = { s with bad := fun k => if k = n then f else s.bad k } := by simp [DS.setBad, hmay]
    have HC := Lib.hid (fun i (hi : i < zs.length) => h.v2_cells hi)
    obtain ⟨a2, k2, rfl⟩ := row_shape h.ba
    have END : ∀ (w3 : World) (zs' : List Int) (v' : Value), zs'.length ≤ zs.length + 1 → (∀ k, decide (k ∈ zs') = if k = n then f else s.bad k) → Below w.heap.size w w3 → w3.ownsRow w.heap.size 3 1 v' zs'.length (intVals zs') →
        (∃ zs', zs'.length ≤ zs.length + 1 ∧ ∃ v2', RefAt r base (s.setBad n f) zs' v0 v1 v2' kp (w3.setCell ⟨r, 2, none⟩ v')) ∧ Stir (RF r v0) w (w3.setCell ⟨r, 2, none⟩ v') := by
      intro w3 zs' v' h1 h2 h3 h4
      rw [hS]
      exact ⟨⟨zs', h1, v', H0.out.newBad h3 h4 (by omega) (s' := { s with bad := fun k => if k = n then f else s.bad k }) h2 rfl rfl rfl rfl rfl rfl⟩, (Stir.of_below h3).set (.inl (.inl rfl)) _⟩
    have HEND := Lib.hid END
    have HBD := Lib.hid h.bads
    have HR0 := Lib.hid (World.ownsRow_made (base := w.heap.size) (e := 3) (size := 1) w #[] 0 (Nat.le_refl _) (Nat.zero_le _) rfl)
    have HB0 := Lib.hid ((Below.refl _ w).alloc (Nat.le_refl _) (.cells #[] 3))
    clear h hmay hS END hk
    go_enter Tryd.func26, Tryd.ntmps26
    go_wp2_with fail
    refine C1.mono ?_
    rintro e w' ⟨rfl, rfl⟩
    go_wp2_with fail
    go_loopw [8, 9] (fun v i wr => ∃ k : Nat, k ≤ zs.length ∧ i = .int .i64 k ∧ wr.ownsRow w.heap.size 3 1 v (filt zs n k).length (intVals (filt zs n k)) ∧ Below w.heap.size w wr) (fun _ i _ => zs.length - (intOf i).toNat)
    case atStart => exact ⟨0, Nat.zero_le _, rfl, HR0.out, HB0.out⟩
    case round =>
      obtain ⟨k, hkl, rfl, hrow, hB⟩ := hrel
      have HR := Lib.hid hrow
      have HB := Lib.hid hB
      have hfl := filt_le zs n k
      have h' := H0.out.below hB
      have c2 := RO.c2 h'.obj
      clear hrow hB HR0 HB0
      by_cases hlt : k < zs.length
      · have hki : (k : Int) < (zs.length : Int) := by omega
        obtain ⟨q, c, e1, hcell⟩ := h'.v2_cells hlt
        simp only [Value.slice.injEq] at e1
        obtain ⟨rfl, -, hc1⟩ := e1
        subst hc1
        have HSK := Lib.hid (fun e => filt_skip (n := n) hlt e)
        have HTK := Lib.hid (fun e => filt_take (n := n) hlt e)
        generalize zs[k] = z at hcell HSK HTK
        clear h'
        by_cases hzn : z = n
        · have hsk := HSK.out hzn
          have HS2 := Lib.hid hsk
          subst hzn
          clear hsk HSK HTK
          go_wp2_with fail
          go_roundw
          case rel => exact ⟨k + 1, by omega, by go_num, by rw [HS2.out]; exact HR.out, HB.out⟩
          case measure => simp [intOf]; omega
        · have hzb : (z == n) = false := beq_eq_false_iff_ne.2 hzn
          have hzb2 : (z != n) = true := by simp [bne, hzb]
          have htk := HTK.out hzn
          have HT2 := Lib.hid htk
          clear htk HSK HTK
          go_wp2_with (at_builtin; refine wpList_append_own _ rfl _ _ 49 rfl w.heap.size 3 i0 (.int .i64 0) 1 8 Tryd.underlying49 hi hz0 hz1 hz2 rfl (by decide) _ (filt zs n k).length _ rfl (HR.out.alloc _) ⟨wr.heap.size, 0, none⟩ 1 1 [.int .i64 z] rfl rfl (cell_one_new _ _ _) (by simp [Value.oneCell']) (by unfold maxLen; omega) (by omega) (by simp; have := HB.out.size; omega) ?_; intro v' w3 hrow3 hgrow3 _)
          rw [intVals_snoc] at hrow3
          have HR3 := Lib.hid (show w3.ownsRow w.heap.size 3 1 v' (filt zs n (k + 1)).length (intVals (filt zs n (k + 1))) by rw [HT2.out, List.length_append]; exact hrow3)
          have HB3 := Lib.hid ((HB.out.alloc HB.out.size (.cells #[.int .i64 z] 3)).grown hgrow3 (by have := HB.out.size; simp; omega) (fun j hj => (HR.out.lt j hj).1))
          clear hrow3 hgrow3
          go_wp2_with fail
          go_roundw
          case rel => exact ⟨k + 1, by omega, by go_num, HR3.out, HB3.out⟩
          case measure => simp [intOf]; omega
      · obtain rfl : k = zs.length := by omega
        have hki : ¬ ((zs.length : Nat) : Int) < (zs.length : Int) := by omega
        have hO := h'.obj
        have HO := Lib.hid hO
        clear h' hlt
        cases f with
        | true =>
          go_wp2_with (at_builtin; refine wpList_append_own _ rfl _ _ 49 rfl w.heap.size 3 i0 (.int .i64 0) 1 8 Tryd.underlying49 hi hz0 hz1 hz2 rfl (by decide) _ (filt zs n zs.length).length _ rfl (HR.out.alloc _) ⟨wr.heap.size, 0, none⟩ 1 1 [.int .i64 n] rfl rfl (cell_one_new _ _ _) (by simp [Value.oneCell']) (by unfold maxLen; omega) (by omega) (by simp; have := HB.out.size; omega) ?_
                       intro v' w3 hrow3 hgrow3 _
                       rw [intVals_snoc] at hrow3
                       obtain ⟨a3, c3, rfl⟩ := row_shape hrow3
                       have hB3 := (HB.out.alloc HB.out.size (.cells #[.int .i64 n] 3)).grown hgrow3 (by have := HB.out.size; simp; omega) (fun j hj => (HR.out.lt j hj).1)
                       have ho3 := (H0.out.below hB3).obj
                       have d2 := RO.c2 ho3
                       have f2 := RO.fr ho3 2
                       have HB3 := Lib.hid hB3
                       have HR3 := Lib.hid hrow3
                       clear hB3 ho3 hrow3 hgrow3)
          have hr3 : w3.ownsRow w.heap.size 3 1 (.slice a3 ((filt zs n zs.length).length + 1) c3) (filt zs n zs.length ++ [n]).length (intVals (filt zs n zs.length ++ [n])) := by rw [List.length_append]; exact HR3.out
          have X := HEND.out w3 (filt zs n zs.length ++ [n]) _ (by simp; omega) (fun j => by
            rw [← HBD.out j]
            by_cases e : j = n
            · simp [e]
            · simp [filt_mem, e]) HB3.out hr3
          go_ret
          exact ⟨rfl, X⟩
        | false =>
          have hrow3 := HR.out
          obtain ⟨a3, c3, e3⟩ := row_shape hrow3
          subst e3
          have f2 := RO.fr hO 2
          have X := HEND.out wr (filt zs n zs.length) _ (by omega) (fun j => by
            rw [← HBD.out j]
            by_cases e : j = n
            · simp [filt_mem, e]
            · simp [filt_mem, e]) HB.out hrow3
          have HX := Lib.hid X
          clear hrow3 X HEND hO
          go_wp2
          go_ret
          exact ⟨rfl, HX.out⟩
  · have hne : (s.may n == 0) = false := beq_eq_false_iff_ne.2 hmay
    rw [show s.setBad n f = s by simp [DS.setBad, hmay]]
    generalize s.may n = E at C1 hmay hne ⊢
    clear h hmay
    go_enter Tryd.func26, Tryd.ntmps26
    go_wp2_with fail
    refine C1.mono ?_
    rintro e w' ⟨rfl, rfl⟩
    go_wp2
    go_ret
    exact ⟨rfl, ⟨zs, Nat.le_succ _, _, H0.out⟩, Stir.refl _ _⟩
end
end Go.Proofs.YtickjomnmifmjaaDoor
