/-
  The reference: are two lists the same?
-/
import Derived.Test.YtffebghkmobeoaaGreatDoorTabO
import Derived.Deep.RegionWith
namespace Go.Proofs.YtffebghkmobeoaaGreatDoor
open Go.RowKit Go

noncomputable def sameB {T : Type} (l m : List T) : Bool := by classical exact decide (l = m)
theorem sameB_iff {T : Type} {l m : List T} : sameB l m = true ↔ l = m := by unfold sameB; simp
theorem sameB_yes {T : Type} {l m : List T} (h : l = m) : sameB l m = true := sameB_iff.2 h
theorem sameB_no {T : Type} {l m : List T} (h : ¬ l = m) : sameB l m = false := by
  cases e : sameB l m with
  | false => rfl
  | true => exact absurd (sameB_iff.1 e) h
/-- two texts that are not one, as the walk asks it -/
theorem texts_ne' {a b : ByteArray} (h : ¬ a = b) : (a.toList == b.toList) = false ∧ (a.toList != b.toList) = true := by
  have : (a.toList == b.toList) = false := by
    rw [ByteArray.toList_eq, ByteArray.toList_eq]
    exact beq_eq_false_iff_ne.2 (fun e => h (ByteArray.ext (Array.toList_inj.1 e)))
  exact ⟨this, by rw [bne, this]; rfl⟩
set_option maxRecDepth 100000 in
set_option maxHeartbeats 2000000 in
theorem entSame_any (v u : Value) (l m : List Ent) (hl : l.length ≤ 9223372036854775807) (hm : m.length ≤ 9223372036854775807) (w : World) (h1 : LstAt entC 2 w v l) (h2 : LstAt entC 2 w u m) :
    Calls Tryz.prog 24 #[v, u] w fun e w' => e = .returned (.bool (sameB l m)) ∧ Below w.heap.size w w' := by
  obtain ⟨R, hR⟩ : ∃ R, sameB l m = R := ⟨_, rfl⟩
  rw [hR]
  have HR := Lib.hid hR
  clear hR
  obtain ⟨a, cap, rfl, hc⟩ := h1
  obtain ⟨a2, cap2, rfl, hc2⟩ := h2
  obtain ⟨N, hN⟩ : ∃ N, l.length = N := ⟨_, rfl⟩
  obtain ⟨M, hM⟩ : ∃ M, m.length = M := ⟨_, rfl⟩
  rw [hN] at hl ⊢
  rw [hM] at hm ⊢
  have HC := Lib.hid hc
  have HC2 := Lib.hid hc2
  have HN := Lib.hid hN
  have HM := Lib.hid hM
  clear hc hc2 hN hM
  by_cases hNM : N = M
  · subst hNM
    go_enter Tryz.func24, Tryz.ntmps24
    go_wp2_with fail
    go_loopw [5] (fun i wr => ∃ j : Nat, j ≤ N ∧ i = .int .i64 j ∧ l.take j = m.take j ∧ Below w.heap.size w wr) (fun i _ => N - (intOf i).toNat)
    case atStart => exact ⟨0, Nat.zero_le _, rfl, rfl, Below.refl _ _⟩
    case round =>
      obtain ⟨j, hj, rfl, htk, hB⟩ := hrel
      have HT := Lib.hid htk
      have HB := Lib.hid hB
      clear htk hB
      by_cases hlt : j < N
      · have hl1 : j < l.length := by rw [HN.out]; exact hlt
        have hl2 : j < m.length := by rw [HM.out]; exact hlt
        have hji : (j : Int) < (N : Int) := by omega
        obtain ⟨b, off, rfl, hb, hcells⟩ := HC.out (by intro e; rw [e] at hl1; simp at hl1)
        obtain ⟨b2, off2, rfl, hb2, hcells2⟩ := HC2.out (by intro e; rw [e] at hl2; simp at hl2)
        obtain ⟨y, hy⟩ : ∃ y, l[j] = y := ⟨_, rfl⟩
        obtain ⟨z, hz⟩ : ∃ z, m[j] = z := ⟨_, rfl⟩
        obtain ⟨c0, c1⟩ : wr.cell? ⟨b, off + j * 2, none⟩ = some (.string y.name) ∧ wr.cell? ⟨b, off + j * 2 + 1, none⟩ = some (.int .i64 y.num) := by
          rw [← hy]
          exact ⟨(World.cell?_of_block (w := w) (HB.out.block b hb)).trans (hcells j hl1 0 (by omega)), (World.cell?_of_block (w := w) (HB.out.block b hb)).trans (hcells j hl1 1 (by omega))⟩
        obtain ⟨d0, d1⟩ : wr.cell? ⟨b2, off2 + j * 2, none⟩ = some (.string z.name) ∧ wr.cell? ⟨b2, off2 + j * 2 + 1, none⟩ = some (.int .i64 z.num) := by
          rw [← hz]
          exact ⟨(World.cell?_of_block (w := w) (HB.out.block b2 hb2)).trans (hcells2 j hl2 0 (by omega)), (World.cell?_of_block (w := w) (HB.out.block b2 hb2)).trans (hcells2 j hl2 1 (by omega))⟩
        have HS := Lib.hid (show y = z → l.take (j + 1) = m.take (j + 1) by
          intro e
          rw [List.take_succ_eq_append_getElem hl1, List.take_succ_eq_append_getElem hl2, HT.out, hy, hz, e])
        have HD := Lib.hid (show y ≠ z → R = false by
          intro e
          rw [← HR.out]
          exact sameB_no fun h => e (by rw [← hy, ← hz]; subst h; rfl))
        clear hcells hcells2 hy hz hb hb2
        by_cases hyz : y = z
        · have HE := Lib.hid (HS.out hyz)
          subst hyz
          go_wp2_with fail
          go_region
          all_goals (
            go_wp2_with fail
            go_roundw
            case rel => exact ⟨j + 1, hlt, by go_num, HE.out, HB.out.drew⟩
            case measure => simp [intOf]; omega)
        · have HF := Lib.hid (HD.out hyz)
          have HYZ := Lib.hid hyz
          clear hyz HS HD HT
          by_cases g0 : y.name = z.name
          rotate_left
          · obtain ⟨gn1, gn2⟩ := texts_ne' g0
            go_wp2_with fail
            go_region
            all_goals (
              go_wp2_with fail
              go_ret
              exact ⟨by rw [HF.out]; rfl, HB.out.drew⟩)
          · skip
            by_cases g1 : y.num = z.num
            rotate_left
            · skip
              go_wp2_with fail
              go_region
              all_goals (
                go_wp2_with fail
                go_ret
                exact ⟨by rw [HF.out]; rfl, HB.out.drew⟩)
            · exact absurd (by cases y; cases z; simp only at g0 g1; subst g0 g1; rfl) HYZ.out
      · obtain rfl : j = N := by omega
        have HF := Lib.hid (show R = true by
          rw [← HR.out]
          have h := HT.out
          rw [List.take_of_length_le (by rw [HN.out]; exact Nat.le_refl _), List.take_of_length_le (by rw [HM.out]; exact Nat.le_refl _)] at h
          exact sameB_yes h)
        go_wp2_with fail
        go_ret
        exact ⟨by rw [HF.out]; rfl, HB.out⟩
  · have HF := Lib.hid (show R = false by
      rw [← HR.out]
      exact sameB_no fun h => hNM (by rw [← HN.out, ← HM.out, h]))
    have hne : ((N : Int) == (M : Int)) = false := by simpa using fun h => hNM (by omega)
    clear hNM
    go_enter Tryz.func24, Tryz.ntmps24
    go_wp2_with fail
    go_ret
    exact ⟨by rw [HF.out]; rfl, Below.refl _ _⟩
set_option maxRecDepth 100000 in
set_option maxHeartbeats 2000000 in
theorem snpSame_any (v u : Value) (l m : List Snp) (hl : l.length ≤ 9223372036854775807) (hm : m.length ≤ 9223372036854775807) (w : World) (h1 : LstAt snpC 5 w v l) (h2 : LstAt snpC 5 w u m) :
    Calls Tryz.prog 9 #[v, u] w fun e w' => e = .returned (.bool (sameB l m)) ∧ Below w.heap.size w w' := by
  obtain ⟨R, hR⟩ : ∃ R, sameB l m = R := ⟨_, rfl⟩
  rw [hR]
  have HR := Lib.hid hR
  clear hR
  obtain ⟨a, cap, rfl, hc⟩ := h1
  obtain ⟨a2, cap2, rfl, hc2⟩ := h2
  obtain ⟨N, hN⟩ : ∃ N, l.length = N := ⟨_, rfl⟩
  obtain ⟨M, hM⟩ : ∃ M, m.length = M := ⟨_, rfl⟩
  rw [hN] at hl ⊢
  rw [hM] at hm ⊢
  have HC := Lib.hid hc
  have HC2 := Lib.hid hc2
  have HN := Lib.hid hN
  have HM := Lib.hid hM
  clear hc hc2 hN hM
  by_cases hNM : N = M
  · subst hNM
    go_enter Tryz.func9, Tryz.ntmps9
    go_wp2_with fail
    go_loopw [5] (fun i wr => ∃ j : Nat, j ≤ N ∧ i = .int .i64 j ∧ l.take j = m.take j ∧ Below w.heap.size w wr) (fun i _ => N - (intOf i).toNat)
    case atStart => exact ⟨0, Nat.zero_le _, rfl, rfl, Below.refl _ _⟩
    case round =>
      obtain ⟨j, hj, rfl, htk, hB⟩ := hrel
      have HT := Lib.hid htk
      have HB := Lib.hid hB
      clear htk hB
      by_cases hlt : j < N
      · have hl1 : j < l.length := by rw [HN.out]; exact hlt
        have hl2 : j < m.length := by rw [HM.out]; exact hlt
        have hji : (j : Int) < (N : Int) := by omega
        obtain ⟨b, off, rfl, hb, hcells⟩ := HC.out (by intro e; rw [e] at hl1; simp at hl1)
        obtain ⟨b2, off2, rfl, hb2, hcells2⟩ := HC2.out (by intro e; rw [e] at hl2; simp at hl2)
        obtain ⟨y, hy⟩ : ∃ y, l[j] = y := ⟨_, rfl⟩
        obtain ⟨z, hz⟩ : ∃ z, m[j] = z := ⟨_, rfl⟩
        obtain ⟨c0, c1, c2, c3, c4⟩ : wr.cell? ⟨b, off + j * 5, none⟩ = some (.string y.name) ∧ wr.cell? ⟨b, off + j * 5 + 1, none⟩ = some (.int .i64 y.id) ∧ wr.cell? ⟨b, off + j * 5 + 2, none⟩ = some (.int .i64 y.plane) ∧ wr.cell? ⟨b, off + j * 5 + 3, none⟩ = some (.int .i64 y.root) ∧ wr.cell? ⟨b, off + j * 5 + 4, none⟩ = some (.int .i64 y.size) := by
          rw [← hy]
          exact ⟨(World.cell?_of_block (w := w) (HB.out.block b hb)).trans (hcells j hl1 0 (by omega)), (World.cell?_of_block (w := w) (HB.out.block b hb)).trans (hcells j hl1 1 (by omega)), (World.cell?_of_block (w := w) (HB.out.block b hb)).trans (hcells j hl1 2 (by omega)), (World.cell?_of_block (w := w) (HB.out.block b hb)).trans (hcells j hl1 3 (by omega)), (World.cell?_of_block (w := w) (HB.out.block b hb)).trans (hcells j hl1 4 (by omega))⟩
        obtain ⟨d0, d1, d2, d3, d4⟩ : wr.cell? ⟨b2, off2 + j * 5, none⟩ = some (.string z.name) ∧ wr.cell? ⟨b2, off2 + j * 5 + 1, none⟩ = some (.int .i64 z.id) ∧ wr.cell? ⟨b2, off2 + j * 5 + 2, none⟩ = some (.int .i64 z.plane) ∧ wr.cell? ⟨b2, off2 + j * 5 + 3, none⟩ = some (.int .i64 z.root) ∧ wr.cell? ⟨b2, off2 + j * 5 + 4, none⟩ = some (.int .i64 z.size) := by
          rw [← hz]
          exact ⟨(World.cell?_of_block (w := w) (HB.out.block b2 hb2)).trans (hcells2 j hl2 0 (by omega)), (World.cell?_of_block (w := w) (HB.out.block b2 hb2)).trans (hcells2 j hl2 1 (by omega)), (World.cell?_of_block (w := w) (HB.out.block b2 hb2)).trans (hcells2 j hl2 2 (by omega)), (World.cell?_of_block (w := w) (HB.out.block b2 hb2)).trans (hcells2 j hl2 3 (by omega)), (World.cell?_of_block (w := w) (HB.out.block b2 hb2)).trans (hcells2 j hl2 4 (by omega))⟩
        have HS := Lib.hid (show y = z → l.take (j + 1) = m.take (j + 1) by
          intro e
          rw [List.take_succ_eq_append_getElem hl1, List.take_succ_eq_append_getElem hl2, HT.out, hy, hz, e])
        have HD := Lib.hid (show y ≠ z → R = false by
          intro e
          rw [← HR.out]
          exact sameB_no fun h => e (by rw [← hy, ← hz]; subst h; rfl))
        clear hcells hcells2 hy hz hb hb2
        by_cases hyz : y = z
        · have HE := Lib.hid (HS.out hyz)
          subst hyz
          go_wp2_with fail
          go_region
          all_goals (
            go_wp2_with fail
            go_roundw
            case rel => exact ⟨j + 1, hlt, by go_num, HE.out, HB.out.drew⟩
            case measure => simp [intOf]; omega)
        · have HF := Lib.hid (HD.out hyz)
          have HYZ := Lib.hid hyz
          clear hyz HS HD HT
          by_cases g0 : y.name = z.name
          rotate_left
          · obtain ⟨gn1, gn2⟩ := texts_ne' g0
            go_wp2_with fail
            go_region
            all_goals (
              go_wp2_with fail
              go_ret
              exact ⟨by rw [HF.out]; rfl, HB.out.drew⟩)
          · skip
            by_cases g1 : y.id = z.id
            rotate_left
            · skip
              go_wp2_with fail
              go_region
              all_goals (
                go_wp2_with fail
                go_ret
                exact ⟨by rw [HF.out]; rfl, HB.out.drew⟩)
            · skip
              by_cases g2 : y.plane = z.plane
              rotate_left
              · skip
                go_wp2_with fail
                go_region
                all_goals (
                  go_wp2_with fail
                  go_ret
                  exact ⟨by rw [HF.out]; rfl, HB.out.drew⟩)
              · skip
                by_cases g3 : y.root = z.root
                rotate_left
                · skip
                  go_wp2_with fail
                  go_region
                  all_goals (
                    go_wp2_with fail
                    go_ret
                    exact ⟨by rw [HF.out]; rfl, HB.out.drew⟩)
                · skip
                  by_cases g4 : y.size = z.size
                  rotate_left
                  · skip
                    go_wp2_with fail
                    go_region
                    all_goals (
                      go_wp2_with fail
                      go_ret
                      exact ⟨by rw [HF.out]; rfl, HB.out.drew⟩)
                  · exact absurd (by cases y; cases z; simp only at g0 g1 g2 g3 g4; subst g0 g1 g2 g3 g4; rfl) HYZ.out
      · obtain rfl : j = N := by omega
        have HF := Lib.hid (show R = true by
          rw [← HR.out]
          have h := HT.out
          rw [List.take_of_length_le (by rw [HN.out]; exact Nat.le_refl _), List.take_of_length_le (by rw [HM.out]; exact Nat.le_refl _)] at h
          exact sameB_yes h)
        go_wp2_with fail
        go_ret
        exact ⟨by rw [HF.out]; rfl, HB.out⟩
  · have HF := Lib.hid (show R = false by
      rw [← HR.out]
      exact sameB_no fun h => hNM (by rw [← HN.out, ← HM.out, h]))
    have hne : ((N : Int) == (M : Int)) = false := by simpa using fun h => hNM (by omega)
    clear hNM
    go_enter Tryz.func9, Tryz.ntmps9
    go_wp2_with fail
    go_ret
    exact ⟨by rw [HF.out]; rfl, Below.refl _ _⟩
end Go.Proofs.YtffebghkmobeoaaGreatDoor

