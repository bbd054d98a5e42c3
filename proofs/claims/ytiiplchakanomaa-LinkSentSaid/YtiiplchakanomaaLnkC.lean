/-
  Time passes: pass, Step.
-/
import Derived.Test.YtiiplchakanomaaLnkB
import Derived.Test.YtiiplchakanomaaKitM
namespace Go.Proofs.Ytiiplchakanomaa
open Go.RowKit Go

theorem lteVals_get : ∀ (T : List Lte) (j : Nat) (q : Lte), T[j]? = some q → (lteVals T)[j * 2]? = some (.string q.1) ∧ (lteVals T)[j * 2 + 1]? = some (.int .i64 (q.2 : Int))
  | [], _, _, h => by simp at h
  | x :: T, 0, q, h => by
    simp at h
    subst h
    exact ⟨rfl, rfl⟩
  | x :: T, j + 1, q, h => by
    have ih := lteVals_get T j q (by simpa using h)
    have e : lteVals (x :: T) = .string x.1 :: .int .i64 (x.2 : Int) :: lteVals T := by simp [lteVals]
    rw [e, show (j + 1) * 2 = j * 2 + 1 + 1 by omega]
    simpa using ih
/-- a message that is late, in a variable of its own, late by a step less -/
theorem lte_box (s : ByteArray) (m n : Int) (W : World) : ∃ w1 u1 u2 u3,
    (W.alloc (.cells #[.string ⟨#[]⟩, .int .i64 0] 58) = w1 ∧ w1.setCell ⟨W.heap.size, 0, none⟩ (.string s) = u1 ∧ u1.setCell ⟨W.heap.size, 1, none⟩ (.int .i64 m) = u2 ∧ u2.setCell ⟨W.heap.size, 1, none⟩ (.int .i64 n) = u3) ∧
    (w1.cell? ⟨W.heap.size, 0, none⟩ = some (.string ⟨#[]⟩) ∧ u1.cell? ⟨W.heap.size, 1, none⟩ = some (.int .i64 0) ∧ u2.cell? ⟨W.heap.size, 1, none⟩ = some (.int .i64 m) ∧ u3.cell? ⟨W.heap.size, 0, none⟩ = some (.string s) ∧ u3.cell? ⟨W.heap.size, 1, none⟩ = some (.int .i64 n)) ∧
    (w1.frozen? ⟨W.heap.size, 0, none⟩ = false ∧ u1.frozen? ⟨W.heap.size, 1, none⟩ = false ∧ u2.frozen? ⟨W.heap.size, 1, none⟩ = false) ∧ Below W.heap.size W u3 := by
  obtain ⟨w1, e1⟩ : ∃ u, W.alloc (.cells #[.string ⟨#[]⟩, .int .i64 0] 58) = u := ⟨_, rfl⟩
  have h1 : w1.heap[W.heap.size]? = some (.cells #[.string ⟨#[]⟩, .int .i64 0] 58) := by rw [← e1]; exact heap_alloc_new _ _
  obtain ⟨u1, e2⟩ : ∃ u, w1.setCell ⟨W.heap.size, 0, none⟩ (.string s) = u := ⟨_, rfl⟩
  have h2 : u1.heap[W.heap.size]? = some (.cells #[.string s, .int .i64 0] 58) := by rw [← e2, heap_set h1]; rfl
  obtain ⟨u2, e3⟩ : ∃ u, u1.setCell ⟨W.heap.size, 1, none⟩ (.int .i64 m) = u := ⟨_, rfl⟩
  have h3 : u2.heap[W.heap.size]? = some (.cells #[.string s, .int .i64 m] 58) := by rw [← e3, heap_set h2]; rfl
  obtain ⟨u3, e4⟩ : ∃ u, u2.setCell ⟨W.heap.size, 1, none⟩ (.int .i64 n) = u := ⟨_, rfl⟩
  have h4 : u3.heap[W.heap.size]? = some (.cells #[.string s, .int .i64 n] 58) := by rw [← e4, heap_set h3]; rfl
  refine ⟨w1, u1, u2, u3, ⟨e1, e2, e3, e4⟩, ⟨?_, ?_, ?_, ?_, ?_⟩, ⟨?_, ?_, ?_⟩, ?_⟩
  · simp [World.cell?, h1]
  · simp [World.cell?, h2]
  · simp [World.cell?, h3]
  · simp [World.cell?, h4]
  · simp [World.cell?, h4]
  · simp [World.frozen?, h1]
  · simp [World.frozen?, h2]
  · simp [World.frozen?, h3]
  · rw [← e4, ← e3, ← e2, ← e1]
    exact ((((Below.refl _ W).alloc (Nat.le_refl _) _).setCell (p := ⟨W.heap.size, 0, none⟩) (Nat.le_refl _) _).setCell (p := ⟨W.heap.size, 1, none⟩) (Nat.le_refl _) _).setCell (p := ⟨W.heap.size, 1, none⟩) (Nat.le_refl _) _

section
variable {w : World} {b room : Nat} {v u : Value} {L : List ByteArray} {T : List Lte} {G : Nat → Prop}
/-- how far pass has come -/
structure PassAt (room : Nat) (L : List ByteArray) (T : List Lte) (b : Nat) (u : Value) (G : Nat → Prop) (w : World) (j : Nat) (x : Value) (wr : World) : Prop where
  link : ∃ v G', LAt room (stepL room L (T.take j)) T b v u G' wr ∧ (∀ k, G' k → G k ∨ w.heap.size ≤ k) ∧ Stir G w wr ∧ ∀ k, x.ownBlock = some k → ¬ G' k
  row : wr.ownsRow w.heap.size 58 2 x (leftT (T.take j)).length (lteVals (leftT (T.take j)))
set_option maxRecDepth 100000 in
set_option maxHeartbeats 4000000 in
theorem pass_any (h : LAt room L T b v u G w) (hr : room ≤ 4096) (hT : T.length ≤ 100000) (hL : LateOk T) :
    Calls Try.prog 23 #[u, putF b] w fun e w' => ∃ x, e = .returned x ∧ PassAt room L T b u G w T.length x w' := by
  obtain ⟨i0, hi0, hz0, hz1, hz2⟩ := info_parts infoLte
  have H := Lib.hid h
  have HL := Lib.hid hL
  have HS := Lib.hid (Stir.refl G w)
  have HT := Lib.hid hT
  obtain ⟨a, cap, rfl⟩ := row_shape h.late
  have CP := fun (L : List ByteArray) (v : Value) (G : Nat → Prop) (W : World) (h : LAt room L T b v (.slice a T.length cap) G W) (s : ByteArray) => putU_any h hr s
  obtain ⟨N, hN⟩ : ∃ N, T.length = N := ⟨_, rfl⟩
  have HN := Lib.hid hN
  rw [hN]
  rw [hN] at CP
  unfold putF
  clear h hr hT hL hN
  go_enter Try.func23, Try.ntmps23
  go_wp2
  go_loopw [4, 9] (fun x i wr => ∃ j : Nat, j ≤ N ∧ i = .int .i64 j ∧ PassAt room L T b (.slice a N cap) G w j x wr) (fun _ i _ => N - (intOf i).toNat)
  case atStart => exact ⟨0, Nat.zero_le _, rfl, ⟨⟨v, G, by rw [← HN.out]; exact H.out, fun k hk => .inl hk, HS.out, fun k hk => by cases hk⟩, World.ownsRow_nil _ _ _ _⟩⟩
  case round =>
    obtain ⟨j, hj, rfl, ⟨v2, G2, hA, hG, hS, hx⟩, hrow⟩ := hrel
    by_cases hlt : j < N
    · have hji : (j : Int) < (N : Int) := by omega
      have hjT : j < T.length := by rw [HN.out]; exact hlt
      obtain ⟨q, hq⟩ : ∃ q, T[j] = q := ⟨_, rfl⟩
      have hq2 : T[j]? = some q := by rw [List.getElem?_eq_getElem hjT, hq]
      obtain ⟨g1, g2⟩ := lteVals_get T j q hq2
      have hok := HL.out q (by rw [← hq]; exact List.getElem_mem hjT)
      obtain ⟨s, n0⟩ := q
      simp only at hok g1 g2
      obtain ⟨n, hn⟩ : ∃ n, n0 = n + 1 := ⟨n0 - 1, by omega⟩
      obtain ⟨M, hM⟩ : ∃ M : Int, (n0 : Int) = M := ⟨_, rfl⟩
      obtain ⟨m, hm⟩ : ∃ m : Int, (n : Int) = m := ⟨_, rfl⟩
      have HTK := Lib.hid (show T.take (j + 1) = T.take j ++ [(s, n + 1)] by rw [← hn, ← hq]; exact List.take_succ_eq_append_getElem hjT)
      rw [hM] at g2
      have HJT := Lib.hid (show (leftT (T.take j)).length ≤ 100000 from Nat.le_trans (leftT_len (T.take j)) (Nat.le_trans (by rw [List.length_take]; exact Nat.min_le_right _ _) HT.out))
      have hlate := hA.late
      rw [HN.out] at hlate
      rcases hlate.2 with ⟨e, h0⟩ | ⟨g, cap', cur, e, -⟩
      · exfalso; omega
      · cases e
        have k0 : wr.cell? ⟨g, j * 2, none⟩ = some (.string s) := by
          have := hlate.cells (g := g) rfl (j * 2) _ g1
          rwa [Addr.add_lit, Nat.zero_add] at this
        have k1 : wr.cell? ⟨g, j * 2 + 1, none⟩ = some (.int .i64 M) := by
          have := hlate.cells (g := g) rfl (j * 2 + 1) _ g2
          rwa [Addr.add_lit, Nat.zero_add] at this
        obtain ⟨w1, u1, u2, u3, ⟨x1, x2, x3, x4⟩, ⟨y1, y2, y3, y4, y5⟩, ⟨z1, z2, z3⟩, hB⟩ := lte_box s M m wr
        have HA := Lib.hid (hA.later hB)
        have HG := Lib.hid hG
        have HS2 := Lib.hid (hS.and_below hB)
        have HX := Lib.hid hx
        have HR := Lib.hid (owns_keep hrow (fun k hk => hB.block k (hrow.lt k hk).2))
        have HRL := Lib.hid (fun k hk => Nat.lt_of_lt_of_le (hrow.lt k hk).2 hB.size)
        have HSZ := Lib.hid hS.size
        have HU := Lib.hid hB.size
        have hw : wrap64 (M - 1) = m := by unfold wrap64; omega
        have hwj := wrap_up hlt (by have := HT.out; have := HN.out; clear hw; omega)
        have HM := Lib.hid hm
        have hj1 : j + 1 ≤ N := hlt
        clear hA hG hS hx hrow hq hq2 g1 g2 hok hlate hB hn hM hm
        by_cases hn : m = 0
        · subst hn
          have CP2 := CP _ _ _ _ HA.out s
          have hn0 : n = 0 := by have := HM.out; clear hw hwj; omega
          have HX2 := Lib.hid (show stepL room L (T.take (j + 1)) = comesL room (stepL room L (T.take j)) s ∧ leftT (T.take (j + 1)) = leftT (T.take j) by
            subst hn0
            rw [HTK.out, stepL_snoc, leftT_snoc]
            simp)
          clear CP hn0
          go_wp2_with fail
          refine CP2.mono ?_
          rintro e w5 ⟨rfl, v5, G5, h5, hG5, hS5⟩
          have HP := Lib.hid (show PassAt room L T b (.slice (some ⟨g, 0, none⟩) N cap) G w (j + 1) u4 w5 from ⟨⟨v5, G5, by rw [HX2.out.1]; exact h5, fun k hk => by
              rcases hG5 k hk with h | h
              · exact HG.out k h
              · exact .inr (Nat.le_trans HSZ.out (Nat.le_trans HU.out h)), HS2.out.trans hS5 HG.out, fun k hk hk5 => by
              rcases hG5 k hk5 with h | h
              · exact HX.out k hk h
              · exact Nat.lt_irrefl _ (Nat.lt_of_lt_of_le (HRL.out k hk) h)⟩, by rw [HX2.out.2]; exact owns_keep HR.out (fun k hk => hS5.block k (HRL.out k hk) (HX.out k hk))⟩)
          clear h5 hG5 hS5 CP2
          go_wp2_with fail
          go_roundw
          case rel => exact ⟨j + 1, hj1, (by first | exact num_up hwj | rfl), HP.out⟩
          case measure => first | exact meas_v hlt hwj rfl rfl | exact meas_u hlt rfl rfl
        · have hne : (m == 0) = false := beq_eq_false_iff_ne.2 hn
          have HX2 := Lib.hid (show stepL room L (T.take (j + 1)) = stepL room L (T.take j) ∧ leftT (T.take (j + 1)) = leftT (T.take j) ++ [(s, n)] by
            have hn0 : ¬ n = 0 := by have := HM.out; clear hw hwj; omega
            rw [HTK.out, stepL_snoc, leftT_snoc]
            simp [hn0])
          have hone : ∀ u ∈ [Value.string s, .int .i64 m], u.oneCell' = true := by intro u hu; simp at hu; rcases hu with rfl | rfl <;> rfl
          clear CP hn
          go_wp2_with (at_builtin; go_loud (
            (refine wpList_append_own_at _ rfl _ _ 52 rfl w.heap.size 58 i0 _ 2 24 Try.underlying52 hi0 hz0 hz1 hz2 rfl (by decide) _ _ _ rfl (HR.out.alloc _) ⟨u3.heap.size, 0, none⟩ 1 1 [.string s, .int .i64 m] rfl rfl (cell_two_new u3 _ _ _) hone (by have := HJT.out; clear hw hwj; unfold maxLen; omega) (by have := HJT.out; clear hw hwj; omega) (Nat.le_trans HSZ.out (Nat.le_trans HU.out (by simp))) ?_)
            intro v5 w5 hown5 hgrow5 _ hat5
            have HP := Lib.hid (show PassAt room L T b (.slice (some ⟨g, 0, none⟩) N cap) G w (j + 1) v5 w5 from by
              have hgk : ∀ k, G2 k → w5.heap[k]? = u3.heap[k]? := fun k hk => by
                have hl := HA.out.lt k hk
                rw [hgrow5.block k (by simp; exact Nat.lt_succ_of_lt hl) (fun e => HX.out k e.symm hk)]
                exact ((Below.refl _ u3).alloc (Nat.le_refl _) _).block k hl
              have hs5 : Stir G w w5 := ⟨(hgrow5.os).trans HS2.out.os, hgrow5.tape.trans HS2.out.tape, hgrow5.output.trans HS2.out.output, Nat.le_trans HS2.out.size (Nat.le_trans (by simp) hgrow5.size), fun k hk hn => by
                have hl := Nat.lt_of_lt_of_le hk HS2.out.size
                rw [hgrow5.block k (by simp; exact Nat.lt_succ_of_lt hl) (fun e => ?_), ((Below.refl _ u3).alloc (Nat.le_refl _) _).block k hl]
                · exact HS2.out.block k hk hn
                · have := (HR.out.lt k e.symm).1
                  exact absurd hk (Nat.not_lt.2 this)⟩
              refine ⟨⟨v2, G2, ?_, HG.out, hs5, fun k hk hk2 => ?_⟩, ?_⟩
              · rw [HX2.out.1]
                exact ⟨(hgk _ HA.out.own).trans HA.out.obj, HA.out.waits.keep (fun k hk => hgk k (HA.out.ownv k hk)), owns_keep HA.out.late (fun k hk => hgk k (HA.out.ownu k hk)), HA.out.own, HA.out.ownv, HA.out.ownu,
                  fun k hk => Nat.lt_of_lt_of_le (HA.out.lt k hk) (Nat.le_trans (by simp) hgrow5.size)⟩
              · rcases hat5 with e | e
                · exact HX.out k (e ▸ hk) hk2
                · rw [hk] at e
                  have := HA.out.lt k hk2
                  simp at e
                  exact absurd this (by rw [e]; exact Nat.not_lt.2 (Nat.le_succ _))
              · rw [HX2.out.2, lteVals_snoc, List.length_append, HM.out]
                exact hown5)
            obtain ⟨a5, cap5, rfl⟩ := row_shape hown5
            clear hown5 hgrow5 hat5))
          go_roundw
          case rel => exact ⟨j + 1, hj1, (by first | exact num_up hwj | rfl), HP.out⟩
          case measure => first | exact meas_v hlt hwj rfl rfl | exact meas_u hlt rfl rfl
    · obtain rfl : j = N := by omega
      have HP := Lib.hid (show PassAt room L T b (.slice a j cap) G w j u4 wr from ⟨⟨v2, G2, hA, hG, hS, hx⟩, hrow⟩)
      clear hA hG hS hx hrow
      go_wp2_with fail
      go_ret
      exact ⟨_, rfl, HP.out⟩
set_option maxRecDepth 100000 in
set_option maxHeartbeats 2000000 in
theorem step_any (h : LAt room L T b v u G w) (hr : room ≤ 4096) (hT : T.length ≤ 100000) (hL : LateOk T) :
    Calls Try.prog 11 #[.pointer (some ⟨b, 0, none⟩)] w fun e w' => e = .returned (.tuple #[]) ∧ LPut room (stepL room L T) (leftT T) b G w w' := by
  have hd : LAt room L T b v u G w.drew := h.later (Below.refl _ w).drew
  have CP := pass_any hd hr hT hL
  have l2 := LObj.c2 h.obj
  have hmf : ∀ (fn : Fn) (first cap : Array Value) (w : World), (Instr.makeFunc fn first cap).run Try.prog w = .ok (.func fn first cap) w := fun _ _ _ _ => rfl
  have HS := Lib.hid (show Stir G w w.drew from (Stir.refl G w).drew)
  obtain ⟨a, cap, rfl⟩ := row_shape h.late
  unfold putF at CP
  obtain ⟨N, hN⟩ : ∃ N, T.length = N := ⟨_, rfl⟩
  have HN := Lib.hid hN
  rw [hN] at CP l2
  clear h hd hr hT hL hN
  go_enter Try.func11, Try.ntmps11
  go_wp2_with fail
  go_region_law (first
    | (go_simp; go_at_call 23; refine CP.mono ?_; rintro e w3 ⟨x, rfl, ⟨v3, G3, h3, hG3, hS3, hx⟩, hrow⟩; have d2 := LObj.c2 h3.obj; have f2 := LObj.fr h3.obj 2; obtain ⟨a3, cap3, rfl⟩ := row_shape hrow; have HA := Lib.hid h3; have HG := Lib.hid hG3; have HS3 := Lib.hid hS3; have HR := Lib.hid hrow; clear h3 hG3 hS3 hx hrow))
  all_goals (
    go_wp2_with fail
    go_end0
    refine ⟨rfl, ?_⟩
    have hA := HA.out
    have hR := HR.out
    have hTN : T.take N = T := by rw [← HN.out, List.take_length]
    rw [hTN] at hA hR ⊢
    obtain ⟨G4, h4, hG4, hS4⟩ := hA.put2' (T' := leftT T) hR ⟨rfl, rfl, rfl, Nat.le_refl _, fun _ _ _ => rfl⟩
    refine ⟨_, _, G4, h4, fun k hk => ?_, (HS.out.trans HS3.out (fun k hk => .inl hk)).trans hS4 HG.out⟩
    rcases hG4 k hk with h | h
    · exact HG.out k h
    · exact .inr (hR.lt k h).1)
end
end Go.Proofs.Ytiiplchakanomaa

