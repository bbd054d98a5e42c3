/-
  The reference's Step; two links beside each other.
-/
import Derived.Test.YtiiplchakanomaaLnkRb
namespace Go.Proofs.Ytiiplchakanomaa
open Go.RowKit Go

section
variable {w : World} {b room : Nat} {v u : Value} {L : List ByteArray} {T : List Lte} {G : Nat → Prop}
/-- how far Step has come -/
structure RPassAt (room : Nat) (L : List ByteArray) (T : List Lte) (b : Nat) (u : Value) (G : Nat → Prop) (w : World) (j : Nat) (x : Value) (wr : World) : Prop where
  link : ∃ v G', RAt room (stepL room L (T.take j)) T b v u G' wr ∧ (∀ k, G' k → G k ∨ w.heap.size ≤ k) ∧ Stir G w wr ∧ ∀ k, x.ownBlock = some k → ¬ G' k
  row : wr.ownsRow w.heap.size 62 2 x (leftT (T.take j)).length (lteVals (leftT (T.take j)))
set_option maxRecDepth 100000 in
set_option maxHeartbeats 4000000 in
theorem rstep_any (h : RAt room L T b v u G w) (hr : room ≤ 4096) (hT : T.length ≤ 100000) (hL : LateOk T) :
    Calls Try.prog 12 #[.pointer (some ⟨b, 0, none⟩)] w fun e w' => e = .returned (.tuple #[]) ∧ RPut room (stepL room L T) (leftT T) b G w w' := by
  obtain ⟨i0, hi0, hz0, hz1, hz2⟩ := info_parts infoRlt
  have HL := Lib.hid hL
  have HT := Lib.hid hT
  obtain ⟨a, cap, rfl⟩ := row_shape h.late
  have hB0 : Below w.heap.size w (w.alloc (.cells #[] 62)) := (Below.refl _ w).alloc (Nat.le_refl _) _
  have H0 := Lib.hid (show RPassAt room L T b (.slice a T.length cap) G w 0 (.slice (some ⟨w.heap.size, 0, none⟩) 0 0) (w.alloc (.cells #[] 62)) from
    ⟨⟨v, G, h.later hB0, fun k hk => .inl hk, Stir.of_below hB0, fun k hk hg => by
      cases hk
      exact Nat.lt_irrefl _ (h.lt _ hg)⟩, made_none w _ 2⟩)
  have CP := fun (L : List ByteArray) (v : Value) (G : Nat → Prop) (W : World) (h : RAt room L T b v (.slice a T.length cap) G W) (s : ByteArray) => rcomes_any h hr s
  obtain ⟨N, hN⟩ : ∃ N, T.length = N := ⟨_, rfl⟩
  have HN := Lib.hid hN
  rw [hN] at CP H0
  clear h hr hT hL hN hB0
  go_enter Try.func12, Try.ntmps12
  go_wp2
  go_loopw [2, 3] (fun x i wr => ∃ j : Nat, j ≤ N ∧ i = .int .i64 j ∧ RPassAt room L T b (.slice a N cap) G w j x wr) (fun _ i _ => N - (intOf i).toNat)
  case atStart => exact ⟨0, Nat.zero_le _, rfl, H0.out⟩
  case round =>
    obtain ⟨j, hj, rfl, ⟨v2, G2, hA, hG, hS, hx⟩, hrow⟩ := hrel
    have c2 := RObj.c2 hA.obj
    by_cases hlt : j < N
    · have hji : (j : Int) < (N : Int) := by omega
      have hjT : j < T.length := by rw [HN.out]; exact hlt
      obtain ⟨q, hq⟩ : ∃ q, T[j] = q := ⟨_, rfl⟩
      have hq2 : T[j]? = some q := by rw [List.getElem?_eq_getElem hjT, hq]
      obtain ⟨g1, g2⟩ := lteVals_get T j q hq2
      have hok := HL.out q (by rw [← hq]; exact List.getElem_mem hjT)
      obtain ⟨s, n0⟩ := q
      simp only at hok g1 g2
      obtain ⟨n, hn⟩ : ∃ n, n0 = n + 1 := ⟨n0 - 1, by omega⟩
      obtain ⟨M, hM⟩ : ∃ M : Int, (n0 : Int) = M := ⟨_, rfl⟩
      obtain ⟨m, hm⟩ : ∃ m : Int, (n : Int) = m := ⟨_, rfl⟩
      have HTK := Lib.hid (show T.take (j + 1) = T.take j ++ [(s, n + 1)] by rw [← hn, ← hq]; exact List.take_succ_eq_append_getElem hjT)
      rw [hM] at g2
      have HJT := Lib.hid (show (leftT (T.take j)).length ≤ 100000 from Nat.le_trans (leftT_len (T.take j)) (Nat.le_trans (by rw [List.length_take]; exact Nat.min_le_right _ _) HT.out))
      have hlate := hA.late
      rw [HN.out] at hlate
      rcases hlate.2 with ⟨e, h0⟩ | ⟨g, cap', cur, e, -⟩
      · exfalso; omega
      · cases e
        have k0 : wr.cell? ⟨g, j * 2, none⟩ = some (.string s) := by
          have := hlate.cells (g := g) rfl (j * 2) _ g1
          rwa [Addr.add_lit, Nat.zero_add] at this
        have k1 : wr.cell? ⟨g, j * 2 + 1, none⟩ = some (.int .i64 M) := by
          have := hlate.cells (g := g) rfl (j * 2 + 1) _ g2
          rwa [Addr.add_lit, Nat.zero_add] at this
        have HA := Lib.hid hA
        have HG := Lib.hid hG
        have HS2 := Lib.hid hS
        have HX := Lib.hid hx
        have HR := Lib.hid hrow
        have HSZ := Lib.hid hS.size
        have hwk : IntKind.i64.wrap (M - 1) = m := by rw [wrapI _ (by omega) (by omega)]; omega
        have hw : wrap64 (M - 1) = m := by clear hwk; unfold wrap64; omega
        have hwj := wrap_up hlt (by have := HT.out; have := HN.out; clear hw hwk; omega)
        have HM := Lib.hid hm
        have hMn : M = m + 1 := by clear hw hwj hwk; omega
        have hj1 : j + 1 ≤ N := hlt
        clear hA hG hS hx hrow hq hq2 g1 g2 hok hlate hn hM hm
        by_cases hn : m = 0
        · subst hn
          have CP2 := CP _ _ _ _ HA.out s
          have hn0 : n = 0 := by have := HM.out; clear hw hwj hwk; omega
          obtain rfl : M = 1 := by rw [hMn]; rfl
          have HX2 := Lib.hid (show stepL room L (T.take (j + 1)) = comesL room (stepL room L (T.take j)) s ∧ leftT (T.take (j + 1)) = leftT (T.take j) by
            subst hn0
            rw [HTK.out, stepL_snoc, leftT_snoc]
            simp)
          clear CP hn0 hMn
          go_wp2_with fail
          refine CP2.mono ?_
          rintro e w5 ⟨rfl, v5, G5, h5, hG5, hS5⟩
          have HP := Lib.hid (show RPassAt room L T b (.slice (some ⟨g, 0, none⟩) N cap) G w (j + 1) u2 w5 from ⟨⟨v5, G5, by rw [HX2.out.1]; exact h5, fun k hk => by
              rcases hG5 k hk with h | h
              · exact HG.out k h
              · exact .inr (Nat.le_trans HSZ.out h), HS2.out.trans hS5 HG.out, fun k hk hk5 => by
              rcases hG5 k hk5 with h | h
              · exact HX.out k hk h
              · exact Nat.lt_irrefl _ (Nat.lt_of_lt_of_le (HR.out.lt k hk).2 h)⟩, by rw [HX2.out.2]; exact owns_keep HR.out (fun k hk => hS5.block k (HR.out.lt k hk).2 (HX.out k hk))⟩)
          clear h5 hG5 hS5 CP2
          go_wp2_with fail
          go_roundw
          case rel => exact ⟨j + 1, hj1, (by first | exact num_up hwj | rfl), HP.out⟩
          case measure => first | exact meas_v hlt hwj rfl rfl | exact meas_u hlt rfl rfl
        · have hne : (M == 1) = false := beq_eq_false_iff_ne.2 (by clear hw hwj hwk; omega)
          have HX2 := Lib.hid (show stepL room L (T.take (j + 1)) = stepL room L (T.take j) ∧ leftT (T.take (j + 1)) = leftT (T.take j) ++ [(s, n)] by
            have hn0 : ¬ n = 0 := by have := HM.out; clear hw hwj hwk; omega
            rw [HTK.out, stepL_snoc, leftT_snoc]
            simp [hn0])
          have hone : ∀ u ∈ [Value.string s, .int .i64 m], u.oneCell' = true := by intro u hu; simp at hu; rcases hu with rfl | rfl <;> rfl
          have hgG : G2 g := HA.out.ownu g rfl
          have HK := Lib.hid (show ∀ W : World, (∀ k, G2 k → W.heap[k]? = wr.heap[k]?) → W.cell? ⟨b, 2, none⟩ = some (.slice (some ⟨g, 0, none⟩) N cap) ∧ W.cell? ⟨g, j * 2, none⟩ = some (.string s) ∧ W.cell? ⟨g, j * 2 + 1, none⟩ = some (.int .i64 M) from fun W hW =>
            ⟨(World.cell?_of_block (w := wr) (hW b HA.out.own)).trans c2, (World.cell?_of_block (w := wr) (hW g hgG)).trans k0, (World.cell?_of_block (w := wr) (hW g hgG)).trans k1⟩)
          have hK0 := HK.out wr.drew (fun _ _ => rfl)
          have hKA := HK.out (wr.alloc (.cells #[.string s, .int .i64 m] 62)).drew (fun k hk => ((Below.refl _ wr).alloc (Nat.le_refl _) _).block k (HA.out.lt k hk))
          have HRA := Lib.hid (show World.ownsRow (wr.alloc (.cells #[.string s, .int .i64 m] 62)).drew w.heap.size 62 2 u2 (leftT (T.take j)).length (lteVals (leftT (T.take j))) from HR.out.alloc _)
          have hgk : ∀ w5, World.grownBy (wr.alloc (.cells #[.string s, .int .i64 m] 62)).drew w5 u2.ownBlock → ∀ k, G2 k → w5.heap[k]? = wr.heap[k]? := fun w5 hgrow5 k hk => by
            have hl := HA.out.lt k hk
            exact (hgrow5.block k (by simp; exact Nat.lt_succ_of_lt hl) (fun e => HX.out k e.symm hk)).trans (((Below.refl _ wr).alloc (Nat.le_refl _) _).block k hl)
          have HGK := Lib.hid hgk
          have HKG := Lib.hid (fun w5 hg => HK.out w5 (hgk w5 hg))
          have HLIT := Lib.hid (show SrcAt (wr.alloc (.cells #[.string s, .int .i64 m] 62)).drew (.slice (some ⟨wr.heap.size, 0, none⟩) 1 1) 1 2 [.string s, .int .i64 m] from SrcAt.lit2 (w := wr) _ _ _)
          clear CP hn hgG hgk hMn
          go_wp2_with fail
          go_region_held3 (fun w' => w'.cell? ⟨b, 2, none⟩ = some (.slice (some ⟨g, 0, none⟩) N cap) ∧ w'.cell? ⟨g, j * 2, none⟩ = some (.string s) ∧ w'.cell? ⟨g, j * 2 + 1, none⟩ = some (.int .i64 M))
            (first | exact hK0 | exact hKA | exact hK5)
            (first
              | go_loud (refine step_append_src (w := (wr.alloc (.cells #[.string s, .int .i64 m] 62)).drew) (by rfl) (.tmp 33) (.tmp 52) _ (by rfl) w.heap.size 62 i0 _ 2 24 Try.underlying30 hi0 hz0 hz1 hz2 rfl (by decide) _ _ _ (by rfl) HRA.out _ 1 [.string s, .int .i64 m] (by rfl) HLIT.out hone (by have := HJT.out; clear hw hwj hwk; unfold maxLen; omega) (by have := HJT.out; clear hw hwj hwk; omega) (Nat.le_trans HSZ.out (by simp)) ?_; intro v5 w5 hown5 hgrow5 hat5; have hK5 := HKG.out w5 hgrow5))
          all_goals (
            have hgk := HGK.out w5 hgrow5
            have HP := Lib.hid (show RPassAt room L T b (.slice (some ⟨g, 0, none⟩) N cap) G w (j + 1) v5 w5 from by
              have hs5 : Stir G w w5 := ⟨(hgrow5.os).trans HS2.out.os, hgrow5.tape.trans HS2.out.tape, hgrow5.output.trans HS2.out.output, Nat.le_trans HS2.out.size (Nat.le_trans (by simp) hgrow5.size), fun k hk hn => by
                have hl := Nat.lt_of_lt_of_le hk HS2.out.size
                refine (hgrow5.block k (by simp; exact Nat.lt_succ_of_lt hl) (fun e => ?_)).trans ((((Below.refl _ wr).alloc (Nat.le_refl _) _).block k hl).trans (HS2.out.block k hk hn))
                have := (HR.out.lt k e.symm).1
                exact absurd hk (Nat.not_lt.2 this)⟩
              refine ⟨⟨v2, G2, ?_, HG.out, hs5, fun k hk hk2 => ?_⟩, ?_⟩
              · rw [HX2.out.1]
                exact ⟨(hgk _ HA.out.own).trans HA.out.obj, HA.out.waits.keep (fun k hk => hgk k (HA.out.ownv k hk)), owns_keep HA.out.late (fun k hk => hgk k (HA.out.ownu k hk)), HA.out.own, HA.out.ownv, HA.out.ownu,
                  fun k hk => Nat.lt_of_lt_of_le (HA.out.lt k hk) (Nat.le_trans (by simp) hgrow5.size)⟩
              · rcases hat5 with e | e
                · exact HX.out k (e ▸ hk) hk2
                · rw [hk] at e
                  have := HA.out.lt k hk2
                  simp at e
                  exact absurd this (by rw [e]; exact Nat.not_lt.2 (Nat.le_succ _))
              · rw [HX2.out.2, lteVals_snoc, List.length_append, HM.out]
                exact hown5)
            clear hown5 hgrow5 hat5 hgk
            go_wp2_with fail
            go_roundw
            case rel => exact ⟨j + 1, hj1, (by first | exact num_up hwj | rfl), HP.out⟩
            case measure => first | exact meas_v hlt hwj rfl rfl | exact meas_u hlt rfl rfl)
    · obtain rfl : j = N := by omega
      have f2 := RObj.fr hA.obj 2
      have hTN : T.take j = T := by rw [← HN.out, List.take_length]
      rw [hTN] at hA hrow
      obtain ⟨a9, cap9, rfl⟩ := row_shape hrow
      obtain ⟨G4, h4, hG4, hS4⟩ := hA.put2' (T' := leftT T) hrow ⟨rfl, rfl, rfl, Nat.le_refl _, fun _ _ _ => rfl⟩
      have HP := Lib.hid (show RPut room (stepL room L T) (leftT T) b G w (wr.setCell ⟨b, 2, none⟩ (.slice a9 (leftT T).length cap9)) from ⟨_, _, G4, h4, fun k hk => by
        rcases hG4 k hk with h | h
        · exact hG k h
        · exact .inr (hrow.lt k h).1, hS.trans hS4 hG⟩)
      clear hA hG hS hx hrow h4 hG4 hS4
      go_wp2_with fail
      go_end0
      exact ⟨rfl, HP.out⟩
end
end Go.Proofs.Ytiiplchakanomaa

