/-
  The reference's Print.
-/
import Derived.Test.YtfokdmijkniomaaGreatDoorCmdQ
namespace Go.Proofs.YtfokdmijkniomaaGreatDoor
open Go.RowKit Go

theorem line_is0 (c : Cmd) : bs (lineK 0 c) = (⟨#[109, 97, 107, 101]⟩ : ByteArray) ++ (⟨#[32]⟩ : ByteArray) ++ c.path := by
  apply ba_ext
  simp [lineK, wordsC, fldK, fldLay, joinB, wordK, bs, ByteArray.data_append]
theorem line_is1 (c : Cmd) : bs (lineK 1 c) = (⟨#[100, 105, 114]⟩ : ByteArray) ++ (⟨#[32]⟩ : ByteArray) ++ c.path := by
  apply ba_ext
  simp [lineK, wordsC, fldK, fldLay, joinB, wordK, bs, ByteArray.data_append]
theorem line_is2 (c : Cmd) : bs (lineK 2 c) = (⟨#[119, 114, 105, 116, 101]⟩ : ByteArray) ++ (⟨#[32]⟩ : ByteArray) ++ c.path ++ ((⟨#[32]⟩ : ByteArray) ++ bs (Lib.itoa c.place)) ++ ((⟨#[32]⟩ : ByteArray) ++ bs (hexW c.data.data.toList)) := by
  apply ba_ext
  simp [lineK, wordsC, fldK, fldLay, joinB, wordK, bs, ByteArray.data_append]
theorem line_is3 (c : Cmd) : bs (lineK 3 c) = (⟨#[99, 117, 116]⟩ : ByteArray) ++ (⟨#[32]⟩ : ByteArray) ++ c.path ++ ((⟨#[32]⟩ : ByteArray) ++ bs (Lib.itoa c.place)) := by
  apply ba_ext
  simp [lineK, wordsC, fldK, fldLay, joinB, wordK, bs, ByteArray.data_append]
theorem line_is4 (c : Cmd) : bs (lineK 4 c) = (⟨#[108, 105, 110, 107]⟩ : ByteArray) ++ (⟨#[32]⟩ : ByteArray) ++ c.path ++ ((⟨#[32]⟩ : ByteArray) ++ c.dest) := by
  apply ba_ext
  simp [lineK, wordsC, fldK, fldLay, joinB, wordK, bs, ByteArray.data_append]
theorem line_is5 (c : Cmd) : bs (lineK 5 c) = (⟨#[114, 101, 110, 97, 109, 101]⟩ : ByteArray) ++ (⟨#[32]⟩ : ByteArray) ++ c.path ++ ((⟨#[32]⟩ : ByteArray) ++ c.dest) := by
  apply ba_ext
  simp [lineK, wordsC, fldK, fldLay, joinB, wordK, bs, ByteArray.data_append]
theorem line_is6 (c : Cmd) : bs (lineK 6 c) = (⟨#[114, 101, 109, 111, 118, 101]⟩ : ByteArray) ++ (⟨#[32]⟩ : ByteArray) ++ c.path := by
  apply ba_ext
  simp [lineK, wordsC, fldK, fldLay, joinB, wordK, bs, ByteArray.data_append]
theorem line_is7 (c : Cmd) : bs (lineK 7 c) = (⟨#[115, 110, 97, 112]⟩ : ByteArray) ++ (⟨#[32]⟩ : ByteArray) ++ c.path := by
  apply ba_ext
  simp [lineK, wordsC, fldK, fldLay, joinB, wordK, bs, ByteArray.data_append]
theorem line_is8 (c : Cmd) : bs (lineK 8 c) = (⟨#[117, 110, 115, 110, 97, 112]⟩ : ByteArray) ++ (⟨#[32]⟩ : ByteArray) ++ c.path := by
  apply ba_ext
  simp [lineK, wordsC, fldK, fldLay, joinB, wordK, bs, ByteArray.data_append]
theorem empty_yes {x : ByteArray} (h : x = ⟨#[]⟩) : x.toList.isEmpty = true := by subst h; rw [toList_eq]; rfl
theorem empty_no {x : ByteArray} (h : ¬ x = ⟨#[]⟩) : x.toList.isEmpty = false := by
  rw [toList_eq]
  cases e : x.data.toList with
  | nil => exact absurd (ba_ext (by rw [e])) h
  | cons _ _ => rfl
theorem no_may {c : Cmd} {k : Nat} (hk : c.kind = k) (g : ¬ MayK c k) : ¬ MayC c := by
  rintro ⟨j, _, hc, hm⟩
  have : (j : Int) = k := by rw [← hc, hk]
  obtain rfl : j = k := by omega
  exact g hm
/-- of bounded size -/
def SmallC (c : Cmd) : Prop := c.path.size + c.dest.size + c.data.size ≤ 1048576
set_option maxRecDepth 100000 in
set_option maxHeartbeats 20000000 in
theorem rprint_any (c : Cmd) (hs : SmallC c) (w : World) :
    Calls Tryz.prog 28 #[cmdV c] w fun e w' => PrintE c e ∧ Below w.heap.size w w' := by
  unfold SmallC at hs
  obtain ⟨w1, hw1⟩ : ∃ w1, w.alloc (CmdObj c) = w1 := ⟨_, rfl⟩
  have hB1 : Below w.heap.size w w1 := by rw [← hw1]; exact (Below.refl _ w).alloc (Nat.le_refl _) _
  have ha1 : CmdAt c w.heap.size w1 := by rw [← hw1]; exact .new _ _
  obtain ⟨d0, d1, d2, d3, d4⟩ : w1.drew.cell? ⟨w.heap.size, 0, none⟩ = some (.int .i64 c.kind) ∧ w1.drew.cell? ⟨w.heap.size, 1, none⟩ = some (.string c.path) ∧ w1.drew.cell? ⟨w.heap.size, 2, none⟩ = some (.string c.dest) ∧ w1.drew.cell? ⟨w.heap.size, 3, none⟩ = some (.int .i64 c.place) ∧ w1.drew.cell? ⟨w.heap.size, 4, none⟩ = some (.string c.data) := ha1.cells
  have HB1 := Lib.hid hB1
  have HA1 := Lib.hid ha1
  have CI := fun w => ris_any c.path (by omega) w
  have CT := fun w => ris_any c.dest (by omega) w
  obtain ⟨p, hp⟩ : ∃ p, pathB c.path = p := ⟨_, rfl⟩
  obtain ⟨t, ht⟩ : ∃ t, pathB c.dest = t := ⟨_, rfl⟩
  obtain ⟨aB, hA⟩ : ∃ aB, decide (0 ≤ c.place ∧ c.place ≤ 16384) = aB := ⟨_, rfl⟩
  obtain ⟨sB, hS⟩ : ∃ sB, decide ((c.data.size : Int) ≤ 512) = sB := ⟨_, rfl⟩
  rw [hp] at CI
  rw [ht] at CT
  have HP := Lib.hid hp
  have HT := Lib.hid ht
  have HAt := Lib.hid hA
  have HSz := Lib.hid hS
  unfold cmdV
  unfold CmdObj at hw1
  clear hB1 ha1 hp ht hA hS
  go_enter Tryz.func28, Tryz.ntmps28
  go_upto_region 1 with fail
  go_cut [4, 5, 6] from 10 to 24 (fun x y z wx => x = .bool p ∧ y = .bool aB ∧ z = .bool sB ∧ Hid (Below w.heap.size w wx) ∧ Hid (CmdAt c w.heap.size wx))
  case first =>
    have hS := HSz.out
    by_cases h0 : 0 ≤ c.place
    · have hA : decide (c.place ≤ 16384) = aB := by rw [← HAt.out]; simp [h0]
      refine wp_region_held_drew (S := fun w' => w'.cell? ⟨w.heap.size, 0, none⟩ = some (.int .i64 c.kind) ∧ w'.cell? ⟨w.heap.size, 1, none⟩ = some (.string c.path) ∧ w'.cell? ⟨w.heap.size, 2, none⟩ = some (.string c.dest) ∧ w'.cell? ⟨w.heap.size, 3, none⟩ = some (.int .i64 c.place) ∧ w'.cell? ⟨w.heap.size, 4, none⟩ = some (.string c.data)) (by kernel_rfl) ⟨d0, d1, d2, d3, d4⟩ (fun hHeld => ?_)
      refine tkH 10 (i := 0) (v := .pointer (some ⟨w.heap.size, 1, none⟩)) (h := ?_)
      simp only [Act.put, stA, st0, st1]
      refine tkH 11 (i := 1) (v := .string c.path) (h := ?_)
      simp only [Act.put, stA, st0, st1]
      refine tkH 13 (i := 3) (v := .pointer (some ⟨w.heap.size, 3, none⟩)) (h := ?_)
      simp only [Act.put, stA, st0, st1]
      refine tkH 14 (i := 4) (v := .int .i64 c.place) (h := ?_)
      simp only [Act.put, stA, st0, st1]
      refine tkH 15 (i := 5) (v := .bool true) (h := ?_)
      simp only [Act.put, stA, st0, st1]
      refine tkH 21 (i := 11) (v := .pointer (some ⟨w.heap.size, 4, none⟩)) (h := ?_)
      simp only [Act.put, stA, st0, st1]
      refine tkH 22 (i := 12) (v := .string c.data) (h := ?_)
      simp only [Act.put, stA, st0, st1]
      refine tkH 23 (i := 13) (v := .int .i64 c.data.size) (h := ?_)
      simp only [Act.put, stA, st0, st1]
      refine tkH 24 (i := 14) (v := .bool sB) (h := ?_)
      simp only [Act.put, stA, st0, st1]
      refine wpAnyH_ready (rs := [2]) (by kernel_rfl) (by simp) ?_
      refine AllReadyH.cons rfl (fun K hK => ?_) (AllReadyH.nil)
      go_simp
      go_at_call 59
      refine (CI _).mono ?_
      rintro e w2 ⟨rfl, hB2⟩
      have HB2 := Lib.hid (HB1.out.drew.trans (hB2.mono HB1.out.size))
      have ha2 : CmdAt c w.heap.size w2 := ⟨keeps_of (w := w1.drew) hB2 HA1.out.obj⟩
      have HA2 := Lib.hid ha2
      obtain ⟨y0, y1, y2, y3, y4⟩ := ha2.cells
      clear hB2 ha2
      go_wp2_with fail
      refine hK.out _ _ ⟨y0, y1, y2, y3, y4⟩ (fun hHeld => ?_)
      clear hK K
      try simp only [Act.put, stA, st0, st1]
      refine tkH 16 (i := 6) (v := .bool true) (h := ?_)
      simp only [Act.put, stA, st0, st1]
      refine tkH 17 (i := 7) (v := .pointer (some ⟨w.heap.size, 3, none⟩)) (h := ?_)
      simp only [Act.put, stA, st0, st1]
      refine tkH 18 (i := 8) (v := .int .i64 c.place) (h := ?_)
      simp only [Act.put, stA, st0, st1]
      refine tkH 19 (i := 9) (v := .bool aB) (h := ?_)
      simp only [Act.put, stA, st0, st1]
      refine tkH 20 (i := 10) (v := .bool aB) (h := ?_)
      simp only [Act.put, stA, st0, st1]
      refine tkH 4 (i := 15) (v := .bool p) (h := ?_)
      simp only [Act.put, stA, st0, st1]
      refine tkH 5 (i := 16) (v := .bool aB) (h := ?_)
      simp only [Act.put, stA, st0, st1]
      refine tkH 6 (i := 17) (v := .bool sB) (h := ?_)
      simp only [Act.put, stA, st0, st1]
      refine wpAnyH_done (by kernel_rfl) ?_ _
      clear y0 y1 y2 y3 y4 hHeld d0 d1 d2 d3 d4
      go_wp2
      go_meet
      exact ⟨rfl, rfl, rfl, HB2, HA2⟩
    · obtain rfl : aB = false := by rw [← HAt.out]; simp [h0]
      refine wp_region_held_drew (S := fun w' => w'.cell? ⟨w.heap.size, 0, none⟩ = some (.int .i64 c.kind) ∧ w'.cell? ⟨w.heap.size, 1, none⟩ = some (.string c.path) ∧ w'.cell? ⟨w.heap.size, 2, none⟩ = some (.string c.dest) ∧ w'.cell? ⟨w.heap.size, 3, none⟩ = some (.int .i64 c.place) ∧ w'.cell? ⟨w.heap.size, 4, none⟩ = some (.string c.data)) (by kernel_rfl) ⟨d0, d1, d2, d3, d4⟩ (fun hHeld => ?_)
      refine tkH 10 (i := 0) (v := .pointer (some ⟨w.heap.size, 1, none⟩)) (h := ?_)
      simp only [Act.put, stA, st0, st1]
      refine tkH 11 (i := 1) (v := .string c.path) (h := ?_)
      simp only [Act.put, stA, st0, st1]
      refine tkH 13 (i := 3) (v := .pointer (some ⟨w.heap.size, 3, none⟩)) (h := ?_)
      simp only [Act.put, stA, st0, st1]
      refine tkH 14 (i := 4) (v := .int .i64 c.place) (h := ?_)
      simp only [Act.put, stA, st0, st1]
      refine tkH 15 (i := 5) (v := .bool false) (h := ?_)
      simp only [Act.put, stA, st0, st1]
      refine tkH 21 (i := 11) (v := .pointer (some ⟨w.heap.size, 4, none⟩)) (h := ?_)
      simp only [Act.put, stA, st0, st1]
      refine tkH 22 (i := 12) (v := .string c.data) (h := ?_)
      simp only [Act.put, stA, st0, st1]
      refine tkH 23 (i := 13) (v := .int .i64 c.data.size) (h := ?_)
      simp only [Act.put, stA, st0, st1]
      refine tkH 24 (i := 14) (v := .bool sB) (h := ?_)
      simp only [Act.put, stA, st0, st1]
      refine wpAnyH_ready (rs := [2]) (by kernel_rfl) (by simp) ?_
      refine AllReadyH.cons rfl (fun K hK => ?_) (AllReadyH.nil)
      go_simp
      go_at_call 59
      refine (CI _).mono ?_
      rintro e w2 ⟨rfl, hB2⟩
      have HB2 := Lib.hid (HB1.out.drew.trans (hB2.mono HB1.out.size))
      have ha2 : CmdAt c w.heap.size w2 := ⟨keeps_of (w := w1.drew) hB2 HA1.out.obj⟩
      have HA2 := Lib.hid ha2
      obtain ⟨y0, y1, y2, y3, y4⟩ := ha2.cells
      clear hB2 ha2
      go_wp2_with fail
      refine hK.out _ _ ⟨y0, y1, y2, y3, y4⟩ (fun hHeld => ?_)
      clear hK K
      try simp only [Act.put, stA, st0, st1]
      refine tkH 16 (i := 6) (v := .bool false) (h := ?_)
      simp only [Act.put, stA, st0, st1]
      refine tkU 17 (i := 7) (v := undef) (h := ?_)
      simp only [Act.put, stA, st0, st1]
      refine tkU 18 (i := 8) (v := undef) (h := ?_)
      simp only [Act.put, stA, st0, st1]
      refine tkU 19 (i := 9) (v := undef) (h := ?_)
      simp only [Act.put, stA, st0, st1]
      refine tkH 20 (i := 10) (v := .bool false) (h := ?_)
      simp only [Act.put, stA, st0, st1]
      refine tkH 4 (i := 15) (v := .bool p) (h := ?_)
      simp only [Act.put, stA, st0, st1]
      refine tkH 5 (i := 16) (v := .bool false) (h := ?_)
      simp only [Act.put, stA, st0, st1]
      refine tkH 6 (i := 17) (v := .bool sB) (h := ?_)
      simp only [Act.put, stA, st0, st1]
      refine wpAnyH_done (by kernel_rfl) ?_ _
      clear y0 y1 y2 y3 y4 hHeld d0 d1 d2 d3 d4
      go_wp2
      go_meet
      exact ⟨rfl, rfl, rfl, HB2, HA2⟩
  case rest =>
    obtain ⟨rfl, rfl, rfl, HB, HA⟩ := hcut
    obtain ⟨q0, q1, q2, q3, q4⟩ := HA.out.cells
    clear d0 d1 d2 d3 d4 hw1 CI
    have hkind : c.kind = 0 ∨ c.kind = 1 ∨ c.kind = 2 ∨ c.kind = 3 ∨ c.kind = 4 ∨ c.kind = 5 ∨ c.kind = 6 ∨ c.kind = 7 ∨ c.kind = 8 ∨ ¬ (0 ≤ c.kind ∧ c.kind < 9) := by omega
    rcases hkind with hk | hk | hk | hk | hk | hk | hk | hk | hk | hk
    · as_aux_lemma =>
        rw [hk] at q0
        have HNo := Lib.hid (fun g => no_may (c := c) (k := 0) (by rw [hk]; rfl) g)
        have HK := Lib.hid hk
        by_cases hc : PathOk c.path
        · obtain rfl : p = true := by rw [← HP.out]; exact pathB_yes hc
          have HcP := Lib.hid hc
          clear hc
          by_cases hc : c.dest = ⟨#[]⟩
          · have bD := empty_yes hc
            have HcD := Lib.hid hc
            clear hc
            by_cases hc : c.place = 0
            · have bZ : (c.place == 0) = true := beq_iff_eq.2 hc
              have HcZ := Lib.hid hc
              clear hc
              by_cases hc : c.data = ⟨#[]⟩
              · have bE := empty_yes hc
                have HcE := Lib.hid hc
                clear hc
                have HM := Lib.hid (show MayK c 0 from ⟨HcP.out, HcD.out, HcZ.out, HcE.out⟩)
                have HLn := Lib.hid (line_is0 c)
                have hpz : c.path.size ≤ 1048576 := by omega
                have hdz : c.dest.size ≤ 1048576 := by omega
                go_wp2
                go_ret2
                exact ⟨.inl ⟨0, by omega, HK.out, HM.out, by rw [HLn.out]; rfl⟩, HB.out⟩
              · have bE := empty_no hc
                have HE := Lib.hid (HNo.out (fun h => hc h.2.2.2))
                clear hc
                go_wp2
                go_ret2
                exact ⟨.inr ⟨HE.out, rfl⟩, HB.out⟩
            · have bZ : (c.place == 0) = false := beq_eq_false_iff_ne.2 hc
              have HE := Lib.hid (HNo.out (fun h => hc h.2.2.1))
              clear hc
              go_wp2
              go_ret2
              exact ⟨.inr ⟨HE.out, rfl⟩, HB.out⟩
          · have bD := empty_no hc
            have HE := Lib.hid (HNo.out (fun h => hc h.2.1))
            clear hc
            go_wp2
            go_ret2
            exact ⟨.inr ⟨HE.out, rfl⟩, HB.out⟩
        · obtain rfl : p = false := by rw [← HP.out]; exact pathB_no hc
          have HE := Lib.hid (HNo.out (fun h => hc h.1))
          clear hc
          go_wp2
          go_ret2
          exact ⟨.inr ⟨HE.out, rfl⟩, HB.out⟩
    · as_aux_lemma =>
        rw [hk] at q0
        have HNo := Lib.hid (fun g => no_may (c := c) (k := 1) (by rw [hk]; rfl) g)
        have HK := Lib.hid hk
        by_cases hc : PathOk c.path
        · obtain rfl : p = true := by rw [← HP.out]; exact pathB_yes hc
          have HcP := Lib.hid hc
          clear hc
          by_cases hc : c.dest = ⟨#[]⟩
          · have bD := empty_yes hc
            have HcD := Lib.hid hc
            clear hc
            by_cases hc : c.place = 0
            · have bZ : (c.place == 0) = true := beq_iff_eq.2 hc
              have HcZ := Lib.hid hc
              clear hc
              by_cases hc : c.data = ⟨#[]⟩
              · have bE := empty_yes hc
                have HcE := Lib.hid hc
                clear hc
                have HM := Lib.hid (show MayK c 1 from ⟨HcP.out, HcD.out, HcZ.out, HcE.out⟩)
                have HLn := Lib.hid (line_is1 c)
                have hpz : c.path.size ≤ 1048576 := by omega
                have hdz : c.dest.size ≤ 1048576 := by omega
                go_wp2
                go_ret2
                exact ⟨.inl ⟨1, by omega, HK.out, HM.out, by rw [HLn.out]; rfl⟩, HB.out⟩
              · have bE := empty_no hc
                have HE := Lib.hid (HNo.out (fun h => hc h.2.2.2))
                clear hc
                go_wp2
                go_ret2
                exact ⟨.inr ⟨HE.out, rfl⟩, HB.out⟩
            · have bZ : (c.place == 0) = false := beq_eq_false_iff_ne.2 hc
              have HE := Lib.hid (HNo.out (fun h => hc h.2.2.1))
              clear hc
              go_wp2
              go_ret2
              exact ⟨.inr ⟨HE.out, rfl⟩, HB.out⟩
          · have bD := empty_no hc
            have HE := Lib.hid (HNo.out (fun h => hc h.2.1))
            clear hc
            go_wp2
            go_ret2
            exact ⟨.inr ⟨HE.out, rfl⟩, HB.out⟩
        · obtain rfl : p = false := by rw [← HP.out]; exact pathB_no hc
          have HE := Lib.hid (HNo.out (fun h => hc h.1))
          clear hc
          go_wp2
          go_ret2
          exact ⟨.inr ⟨HE.out, rfl⟩, HB.out⟩
    · as_aux_lemma =>
        rw [hk] at q0
        have HNo := Lib.hid (fun g => no_may (c := c) (k := 2) (by rw [hk]; rfl) g)
        have HK := Lib.hid hk
        by_cases hc : PathOk c.path
        · obtain rfl : p = true := by rw [← HP.out]; exact pathB_yes hc
          have HcP := Lib.hid hc
          clear hc
          by_cases hc : 0 ≤ c.place ∧ c.place ≤ 16384
          · obtain rfl : aB = true := by rw [← HAt.out]; exact decide_eq_true hc
            have HcA := Lib.hid hc
            clear hc
            by_cases hc : c.data.size ≤ 512
            · obtain rfl : sB = true := by rw [← HSz.out]; exact decide_eq_true (by omega)
              have HcS := Lib.hid hc
              clear hc
              by_cases hc : c.dest = ⟨#[]⟩
              · have bD := empty_yes hc
                have HcD := Lib.hid hc
                clear hc
                have HM := Lib.hid (show MayK c 2 from ⟨HcP.out, HcD.out, HcA.out, HcS.out⟩)
                have HLn := Lib.hid (line_is2 c)
                obtain ⟨n, hn⟩ : ∃ n : Nat, c.place = n := ⟨c.place.toNat, by have := HcA.out.1; omega⟩
                have hn5 : n ≤ 16384 := by have := HcA.out.2; omega
                have CN := fun w => rnum_any n (by omega) w
                have hD : (bs (Lib.decDigits n)).size ≤ 6 := by rw [bs_size]; exact dec_len (by omega)
                have HIt := Lib.hid (show bs (Lib.itoa c.place) = bs (Lib.decDigits n) by rw [hn, Lib.itoa_nonneg])
                rw [hn] at q3
                generalize bs (Lib.decDigits n) = DD at *
                clear hn
                have CH := fun w => rhex_any c.data (by omega) w
                have hH : (bs (hexW c.data.data.toList)).size ≤ 1024 := by
                  have h5 : c.data.data.toList.length = c.data.size := Array.length_toList (xs := c.data.data)
                  have := HcS.out
                  rw [bs_size]
                  unfold hexW
                  split
                  · simp
                  · rw [flat_hex_len]; omega
                obtain ⟨HH, hHH⟩ : ∃ HH, bs (hexW c.data.data.toList) = HH := ⟨_, rfl⟩
                have HHx := Lib.hid hHH
                rw [hHH] at CH hH
                clear hHH
                have hpz : c.path.size ≤ 1048576 := by omega
                have hdz : c.dest.size ≤ 1048576 := by omega
                go_wp2_with fail
                refine (CN _).mono ?_
                rintro e w5 ⟨rfl, hB5⟩
                have HB5 := Lib.hid (HB.out.trans (hB5.mono HB.out.size))
                have ha5 := HA.out.later hB5
                have HA5 := Lib.hid ha5
                clear q0 q1 q2 q3 q4
                obtain ⟨q0, q1, q2, q3, q4⟩ := ha5.cells
                rw [HK.out] at q0
                clear hB5 CN ha5
                go_wp2_with fail
                refine (CH _).mono ?_
                rintro e w6 ⟨rfl, hB6⟩
                have HB6 := Lib.hid (HB5.out.trans (hB6.mono HB5.out.size))
                have ha6 := HA5.out.later hB6
                clear q0 q1 q2 q3 q4
                obtain ⟨q0, q1, q2, q3, q4⟩ := ha6.cells
                rw [HK.out] at q0
                clear hB6 CH ha6
                go_wp2
                go_ret2
                exact ⟨.inl ⟨2, by omega, HK.out, HM.out, by rw [HLn.out, HIt.out, HHx.out]; rfl⟩, HB6.out⟩
              · have bD := empty_no hc
                have HE := Lib.hid (HNo.out (fun h => hc h.2.1))
                clear hc
                go_wp2
                go_ret2
                exact ⟨.inr ⟨HE.out, rfl⟩, HB.out⟩
            · obtain rfl : sB = false := by rw [← HSz.out]; exact decide_eq_false (by omega)
              have HE := Lib.hid (HNo.out (fun h => hc h.2.2.2))
              clear hc
              go_wp2
              go_ret2
              exact ⟨.inr ⟨HE.out, rfl⟩, HB.out⟩
          · obtain rfl : aB = false := by rw [← HAt.out]; exact decide_eq_false hc
            have HE := Lib.hid (HNo.out (fun h => hc h.2.2.1))
            clear hc
            go_wp2
            go_ret2
            exact ⟨.inr ⟨HE.out, rfl⟩, HB.out⟩
        · obtain rfl : p = false := by rw [← HP.out]; exact pathB_no hc
          have HE := Lib.hid (HNo.out (fun h => hc h.1))
          clear hc
          go_wp2
          go_ret2
          exact ⟨.inr ⟨HE.out, rfl⟩, HB.out⟩
    · as_aux_lemma =>
        rw [hk] at q0
        have HNo := Lib.hid (fun g => no_may (c := c) (k := 3) (by rw [hk]; rfl) g)
        have HK := Lib.hid hk
        by_cases hc : PathOk c.path
        · obtain rfl : p = true := by rw [← HP.out]; exact pathB_yes hc
          have HcP := Lib.hid hc
          clear hc
          by_cases hc : 0 ≤ c.place ∧ c.place ≤ 16384
          · obtain rfl : aB = true := by rw [← HAt.out]; exact decide_eq_true hc
            have HcA := Lib.hid hc
            clear hc
            by_cases hc : c.dest = ⟨#[]⟩
            · have bD := empty_yes hc
              have HcD := Lib.hid hc
              clear hc
              by_cases hc : c.data = ⟨#[]⟩
              · have bE := empty_yes hc
                have HcE := Lib.hid hc
                clear hc
                have HM := Lib.hid (show MayK c 3 from ⟨HcP.out, HcD.out, HcA.out, HcE.out⟩)
                have HLn := Lib.hid (line_is3 c)
                obtain ⟨n, hn⟩ : ∃ n : Nat, c.place = n := ⟨c.place.toNat, by have := HcA.out.1; omega⟩
                have hn5 : n ≤ 16384 := by have := HcA.out.2; omega
                have CN := fun w => rnum_any n (by omega) w
                have hD : (bs (Lib.decDigits n)).size ≤ 6 := by rw [bs_size]; exact dec_len (by omega)
                have HIt := Lib.hid (show bs (Lib.itoa c.place) = bs (Lib.decDigits n) by rw [hn, Lib.itoa_nonneg])
                rw [hn] at q3
                generalize bs (Lib.decDigits n) = DD at *
                clear hn
                have hpz : c.path.size ≤ 1048576 := by omega
                have hdz : c.dest.size ≤ 1048576 := by omega
                go_wp2_with fail
                refine (CN _).mono ?_
                rintro e w5 ⟨rfl, hB5⟩
                have HB5 := Lib.hid (HB.out.trans (hB5.mono HB.out.size))
                have ha5 := HA.out.later hB5
                have HA5 := Lib.hid ha5
                clear q0 q1 q2 q3 q4
                obtain ⟨q0, q1, q2, q3, q4⟩ := ha5.cells
                rw [HK.out] at q0
                clear hB5 CN ha5
                go_wp2
                go_ret2
                exact ⟨.inl ⟨3, by omega, HK.out, HM.out, by rw [HLn.out, HIt.out]; rfl⟩, HB5.out⟩
              · have bE := empty_no hc
                have HE := Lib.hid (HNo.out (fun h => hc h.2.2.2))
                clear hc
                go_wp2
                go_ret2
                exact ⟨.inr ⟨HE.out, rfl⟩, HB.out⟩
            · have bD := empty_no hc
              have HE := Lib.hid (HNo.out (fun h => hc h.2.1))
              clear hc
              go_wp2
              go_ret2
              exact ⟨.inr ⟨HE.out, rfl⟩, HB.out⟩
          · obtain rfl : aB = false := by rw [← HAt.out]; exact decide_eq_false hc
            have HE := Lib.hid (HNo.out (fun h => hc h.2.2.1))
            clear hc
            go_wp2
            go_ret2
            exact ⟨.inr ⟨HE.out, rfl⟩, HB.out⟩
        · obtain rfl : p = false := by rw [← HP.out]; exact pathB_no hc
          have HE := Lib.hid (HNo.out (fun h => hc h.1))
          clear hc
          go_wp2
          go_ret2
          exact ⟨.inr ⟨HE.out, rfl⟩, HB.out⟩
    · as_aux_lemma =>
        rw [hk] at q0
        have HNo := Lib.hid (fun g => no_may (c := c) (k := 4) (by rw [hk]; rfl) g)
        have HK := Lib.hid hk
        by_cases hc : PathOk c.path
        · obtain rfl : p = true := by rw [← HP.out]; exact pathB_yes hc
          have HcP := Lib.hid hc
          clear hc
          have CT' := CT
          by_cases hc : PathOk c.dest
          · obtain rfl : t = true := by rw [← HT.out]; exact pathB_yes hc
            have HcT := Lib.hid hc
            clear hc
            go_wp2_with fail
            refine (CT _).mono ?_
            rintro e w5 ⟨rfl, hB5⟩
            have HB5 := Lib.hid (HB.out.trans (hB5.mono HB.out.size))
            have ha5 := HA.out.later hB5
            clear q0 q1 q2 q3 q4
            obtain ⟨q0, q1, q2, q3, q4⟩ := ha5.cells
            rw [HK.out] at q0
            clear hB5 CT CT' ha5
            by_cases hc : c.place = 0
            · have bZ : (c.place == 0) = true := beq_iff_eq.2 hc
              have HcZ := Lib.hid hc
              clear hc
              by_cases hc : c.data = ⟨#[]⟩
              · have bE := empty_yes hc
                have HcE := Lib.hid hc
                clear hc
                have HM := Lib.hid (show MayK c 4 from ⟨HcP.out, HcT.out, HcZ.out, HcE.out⟩)
                have HLn := Lib.hid (line_is4 c)
                have hpz : c.path.size ≤ 1048576 := by omega
                have hdz : c.dest.size ≤ 1048576 := by omega
                go_wp2
                go_ret2
                exact ⟨.inl ⟨4, by omega, HK.out, HM.out, by rw [HLn.out]; rfl⟩, HB5.out⟩
              · have bE := empty_no hc
                have HE := Lib.hid (HNo.out (fun h => hc h.2.2.2))
                clear hc
                go_wp2
                go_ret2
                exact ⟨.inr ⟨HE.out, rfl⟩, HB5.out⟩
            · have bZ : (c.place == 0) = false := beq_eq_false_iff_ne.2 hc
              have HE := Lib.hid (HNo.out (fun h => hc h.2.2.1))
              clear hc
              go_wp2
              go_ret2
              exact ⟨.inr ⟨HE.out, rfl⟩, HB5.out⟩
          · obtain rfl : t = false := by rw [← HT.out]; exact pathB_no hc
            have HE := Lib.hid (HNo.out (fun h => hc h.2.1))
            clear hc
            go_wp2_with fail
            refine (CT _).mono ?_
            rintro e w5 ⟨rfl, hB5⟩
            have HB5 := Lib.hid (HB.out.trans (hB5.mono HB.out.size))
            clear hB5 CT CT' q0 q1 q2 q3 q4
            go_wp2
            go_ret2
            exact ⟨.inr ⟨HE.out, rfl⟩, HB5.out⟩
        · obtain rfl : p = false := by rw [← HP.out]; exact pathB_no hc
          have HE := Lib.hid (HNo.out (fun h => hc h.1))
          clear hc
          go_wp2
          go_ret2
          exact ⟨.inr ⟨HE.out, rfl⟩, HB.out⟩
    · as_aux_lemma =>
        rw [hk] at q0
        have HNo := Lib.hid (fun g => no_may (c := c) (k := 5) (by rw [hk]; rfl) g)
        have HK := Lib.hid hk
        by_cases hc : PathOk c.path
        · obtain rfl : p = true := by rw [← HP.out]; exact pathB_yes hc
          have HcP := Lib.hid hc
          clear hc
          have CT' := CT
          by_cases hc : PathOk c.dest
          · obtain rfl : t = true := by rw [← HT.out]; exact pathB_yes hc
            have HcT := Lib.hid hc
            clear hc
            go_wp2_with fail
            refine (CT _).mono ?_
            rintro e w5 ⟨rfl, hB5⟩
            have HB5 := Lib.hid (HB.out.trans (hB5.mono HB.out.size))
            have ha5 := HA.out.later hB5
            clear q0 q1 q2 q3 q4
            obtain ⟨q0, q1, q2, q3, q4⟩ := ha5.cells
            rw [HK.out] at q0
            clear hB5 CT CT' ha5
            by_cases hc : c.place = 0
            · have bZ : (c.place == 0) = true := beq_iff_eq.2 hc
              have HcZ := Lib.hid hc
              clear hc
              by_cases hc : c.data = ⟨#[]⟩
              · have bE := empty_yes hc
                have HcE := Lib.hid hc
                clear hc
                have HM := Lib.hid (show MayK c 5 from ⟨HcP.out, HcT.out, HcZ.out, HcE.out⟩)
                have HLn := Lib.hid (line_is5 c)
                have hpz : c.path.size ≤ 1048576 := by omega
                have hdz : c.dest.size ≤ 1048576 := by omega
                go_wp2
                go_ret2
                exact ⟨.inl ⟨5, by omega, HK.out, HM.out, by rw [HLn.out]; rfl⟩, HB5.out⟩
              · have bE := empty_no hc
                have HE := Lib.hid (HNo.out (fun h => hc h.2.2.2))
                clear hc
                go_wp2
                go_ret2
                exact ⟨.inr ⟨HE.out, rfl⟩, HB5.out⟩
            · have bZ : (c.place == 0) = false := beq_eq_false_iff_ne.2 hc
              have HE := Lib.hid (HNo.out (fun h => hc h.2.2.1))
              clear hc
              go_wp2
              go_ret2
              exact ⟨.inr ⟨HE.out, rfl⟩, HB5.out⟩
          · obtain rfl : t = false := by rw [← HT.out]; exact pathB_no hc
            have HE := Lib.hid (HNo.out (fun h => hc h.2.1))
            clear hc
            go_wp2_with fail
            refine (CT _).mono ?_
            rintro e w5 ⟨rfl, hB5⟩
            have HB5 := Lib.hid (HB.out.trans (hB5.mono HB.out.size))
            clear hB5 CT CT' q0 q1 q2 q3 q4
            go_wp2
            go_ret2
            exact ⟨.inr ⟨HE.out, rfl⟩, HB5.out⟩
        · obtain rfl : p = false := by rw [← HP.out]; exact pathB_no hc
          have HE := Lib.hid (HNo.out (fun h => hc h.1))
          clear hc
          go_wp2
          go_ret2
          exact ⟨.inr ⟨HE.out, rfl⟩, HB.out⟩
    · as_aux_lemma =>
        rw [hk] at q0
        have HNo := Lib.hid (fun g => no_may (c := c) (k := 6) (by rw [hk]; rfl) g)
        have HK := Lib.hid hk
        by_cases hc : PathOk c.path
        · obtain rfl : p = true := by rw [← HP.out]; exact pathB_yes hc
          have HcP := Lib.hid hc
          clear hc
          by_cases hc : c.dest = ⟨#[]⟩
          · have bD := empty_yes hc
            have HcD := Lib.hid hc
            clear hc
            by_cases hc : c.place = 0
            · have bZ : (c.place == 0) = true := beq_iff_eq.2 hc
              have HcZ := Lib.hid hc
              clear hc
              by_cases hc : c.data = ⟨#[]⟩
              · have bE := empty_yes hc
                have HcE := Lib.hid hc
                clear hc
                have HM := Lib.hid (show MayK c 6 from ⟨HcP.out, HcD.out, HcZ.out, HcE.out⟩)
                have HLn := Lib.hid (line_is6 c)
                have hpz : c.path.size ≤ 1048576 := by omega
                have hdz : c.dest.size ≤ 1048576 := by omega
                go_wp2
                go_ret2
                exact ⟨.inl ⟨6, by omega, HK.out, HM.out, by rw [HLn.out]; rfl⟩, HB.out⟩
              · have bE := empty_no hc
                have HE := Lib.hid (HNo.out (fun h => hc h.2.2.2))
                clear hc
                go_wp2
                go_ret2
                exact ⟨.inr ⟨HE.out, rfl⟩, HB.out⟩
            · have bZ : (c.place == 0) = false := beq_eq_false_iff_ne.2 hc
              have HE := Lib.hid (HNo.out (fun h => hc h.2.2.1))
              clear hc
              go_wp2
              go_ret2
              exact ⟨.inr ⟨HE.out, rfl⟩, HB.out⟩
          · have bD := empty_no hc
            have HE := Lib.hid (HNo.out (fun h => hc h.2.1))
            clear hc
            go_wp2
            go_ret2
            exact ⟨.inr ⟨HE.out, rfl⟩, HB.out⟩
        · obtain rfl : p = false := by rw [← HP.out]; exact pathB_no hc
          have HE := Lib.hid (HNo.out (fun h => hc h.1))
          clear hc
          go_wp2
          go_ret2
          exact ⟨.inr ⟨HE.out, rfl⟩, HB.out⟩
    · as_aux_lemma =>
        rw [hk] at q0
        have HNo := Lib.hid (fun g => no_may (c := c) (k := 7) (by rw [hk]; rfl) g)
        have HK := Lib.hid hk
        have CN := fun w => rname_any c.path (by omega) w
        by_cases hc : NameOk c.path
        · rw [nameB_yes hc] at CN
          have HcN := Lib.hid hc
          clear hc
          by_cases hc : c.dest = ⟨#[]⟩
          · have bD := empty_yes hc
            have HcD := Lib.hid hc
            clear hc
            by_cases hc : c.place = 0
            · have bZ : (c.place == 0) = true := beq_iff_eq.2 hc
              have HcZ := Lib.hid hc
              clear hc
              by_cases hc : c.data = ⟨#[]⟩
              · have bE := empty_yes hc
                have HcE := Lib.hid hc
                clear hc
                have HM := Lib.hid (show MayK c 7 from ⟨HcN.out, HcD.out, HcZ.out, HcE.out⟩)
                have HLn := Lib.hid (line_is7 c)
                have hpz : c.path.size ≤ 1048576 := by omega
                have hdz : c.dest.size ≤ 1048576 := by omega
                go_wp2_with (refine (CN _).mono ?_; rintro e w' ⟨rfl, rfl⟩)
                go_ret2
                exact ⟨.inl ⟨7, by omega, HK.out, HM.out, by rw [HLn.out]; rfl⟩, HB.out⟩
              · have bE := empty_no hc
                have HE := Lib.hid (HNo.out (fun h => hc h.2.2.2))
                clear hc
                go_wp2_with (refine (CN _).mono ?_; rintro e w' ⟨rfl, rfl⟩)
                go_ret2
                exact ⟨.inr ⟨HE.out, rfl⟩, HB.out⟩
            · have bZ : (c.place == 0) = false := beq_eq_false_iff_ne.2 hc
              have HE := Lib.hid (HNo.out (fun h => hc h.2.2.1))
              clear hc
              go_wp2_with (refine (CN _).mono ?_; rintro e w' ⟨rfl, rfl⟩)
              go_ret2
              exact ⟨.inr ⟨HE.out, rfl⟩, HB.out⟩
          · have bD := empty_no hc
            have HE := Lib.hid (HNo.out (fun h => hc h.2.1))
            clear hc
            go_wp2_with (refine (CN _).mono ?_; rintro e w' ⟨rfl, rfl⟩)
            go_ret2
            exact ⟨.inr ⟨HE.out, rfl⟩, HB.out⟩
        · rw [nameB_no hc] at CN
          have HE := Lib.hid (HNo.out (fun h => hc h.1))
          clear hc
          go_wp2_with (refine (CN _).mono ?_; rintro e w' ⟨rfl, rfl⟩)
          go_ret2
          exact ⟨.inr ⟨HE.out, rfl⟩, HB.out⟩
    · as_aux_lemma =>
        rw [hk] at q0
        have HNo := Lib.hid (fun g => no_may (c := c) (k := 8) (by rw [hk]; rfl) g)
        have HK := Lib.hid hk
        have CN := fun w => rname_any c.path (by omega) w
        by_cases hc : NameOk c.path
        · rw [nameB_yes hc] at CN
          have HcN := Lib.hid hc
          clear hc
          by_cases hc : c.dest = ⟨#[]⟩
          · have bD := empty_yes hc
            have HcD := Lib.hid hc
            clear hc
            by_cases hc : c.place = 0
            · have bZ : (c.place == 0) = true := beq_iff_eq.2 hc
              have HcZ := Lib.hid hc
              clear hc
              by_cases hc : c.data = ⟨#[]⟩
              · have bE := empty_yes hc
                have HcE := Lib.hid hc
                clear hc
                have HM := Lib.hid (show MayK c 8 from ⟨HcN.out, HcD.out, HcZ.out, HcE.out⟩)
                have HLn := Lib.hid (line_is8 c)
                have hpz : c.path.size ≤ 1048576 := by omega
                have hdz : c.dest.size ≤ 1048576 := by omega
                go_wp2_with (refine (CN _).mono ?_; rintro e w' ⟨rfl, rfl⟩)
                go_ret2
                exact ⟨.inl ⟨8, by omega, HK.out, HM.out, by rw [HLn.out]; rfl⟩, HB.out⟩
              · have bE := empty_no hc
                have HE := Lib.hid (HNo.out (fun h => hc h.2.2.2))
                clear hc
                go_wp2_with (refine (CN _).mono ?_; rintro e w' ⟨rfl, rfl⟩)
                go_ret2
                exact ⟨.inr ⟨HE.out, rfl⟩, HB.out⟩
            · have bZ : (c.place == 0) = false := beq_eq_false_iff_ne.2 hc
              have HE := Lib.hid (HNo.out (fun h => hc h.2.2.1))
              clear hc
              go_wp2_with (refine (CN _).mono ?_; rintro e w' ⟨rfl, rfl⟩)
              go_ret2
              exact ⟨.inr ⟨HE.out, rfl⟩, HB.out⟩
          · have bD := empty_no hc
            have HE := Lib.hid (HNo.out (fun h => hc h.2.1))
            clear hc
            go_wp2_with (refine (CN _).mono ?_; rintro e w' ⟨rfl, rfl⟩)
            go_ret2
            exact ⟨.inr ⟨HE.out, rfl⟩, HB.out⟩
        · rw [nameB_no hc] at CN
          have HE := Lib.hid (HNo.out (fun h => hc h.1))
          clear hc
          go_wp2_with (refine (CN _).mono ?_; rintro e w' ⟨rfl, rfl⟩)
          go_ret2
          exact ⟨.inr ⟨HE.out, rfl⟩, HB.out⟩
    · have HE := Lib.hid (show ¬ MayC c from fun ⟨j, hj, hc, _⟩ => by omega)
      have n0 : (c.kind == 0) = false := beq_eq_false_iff_ne.2 (by omega)
      have n1 : (c.kind == 1) = false := beq_eq_false_iff_ne.2 (by omega)
      have n2 : (c.kind == 2) = false := beq_eq_false_iff_ne.2 (by omega)
      have n3 : (c.kind == 3) = false := beq_eq_false_iff_ne.2 (by omega)
      have n4 : (c.kind == 4) = false := beq_eq_false_iff_ne.2 (by omega)
      have n5 : (c.kind == 5) = false := beq_eq_false_iff_ne.2 (by omega)
      have n6 : (c.kind == 6) = false := beq_eq_false_iff_ne.2 (by omega)
      have n7 : (c.kind == 7) = false := beq_eq_false_iff_ne.2 (by omega)
      have n8 : (c.kind == 8) = false := beq_eq_false_iff_ne.2 (by omega)
      clear hk
      go_wp2
      go_ret2
      exact ⟨.inr ⟨HE.out, rfl⟩, HB.out⟩
end Go.Proofs.YtfokdmijkniomaaGreatDoor

