/-
  The reference beside the pipe: what a call answers and leaves, by the things alone.
-/
import Derived.Test.YtmlemgifejefiaaPipR
import Derived.Test.YtmlemgifejefiaaPipF
namespace Go.Proofs.Ytmlemgifejefiaa
open Go.RowKit Go

/-- an object that no call turns -/
def plain : Obj → Bool
  | .cells _ t _ => t != 62 && t != 38
  | _ => false
/-- what may turn is none of those -/
def Sp (F : Nat → Prop) (w : World) : Prop := ∀ b o, F b → w.heap[b]? = some o → plain o = false
section
variable {F : Nat → Prop} {w w' : World}
theorem stay_plain (hs : Stir F w w') (hF : Sp F w) {b : Nat} {o : Obj} (h : w.heap[b]? = some o) (ho : plain o = true) : w'.heap[b]? = some o :=
  hs.keep h (fun f => by have := hF b o f h; rw [ho] at this; cases this)
theorem row_stay {base : Nat} {e : TypeId} {size : Nat} {v : Value} {n : Nat} {xs : List Value} (hs : Stir F w w') (hF : Sp F w) (h : w.ownsRow base e size v n xs) (he : (e != 62 && e != 38) = true) : w'.ownsRow base e size v n xs := by
  refine ⟨h.1, ?_⟩
  rcases h.2 with h1 | ⟨g, cap, cur, h1, h2, h3, h4⟩
  · exact Or.inl h1
  · exact Or.inr ⟨g, cap, cur, h1, h2, stay_plain hs hF h3 he, h4⟩
theorem sp_none : Sp (fun _ => False) w := fun _ _ f => f.elim
theorem Sp.or {G : Nat → Prop} (h : Sp F w) (k : Sp G w) : Sp (fun i => F i ∨ G i) w := fun b o f e => by
  rcases f with f | f
  · exact h b o f e
  · exact k b o f e
end
section
variable {w w' : World} {p c room : Nat} {cl : Bool} {L : List Int}
theorem pipe_sp (h : PI.PipeAt p c room cl L w) : Sp (fun k => k = p ∨ k = c) w := by
  obtain ⟨bs, s, r, hc, -⟩ := h.chan
  rintro b o (rfl | rfl) e
  · rw [h.obj] at e; rw [← Option.some.inj e]; rfl
  · rw [hc] at e; rw [← Option.some.inj e]; rfl
theorem pipe_keep {F : Nat → Prop} (h : PI.PipeAt p c room cl L w) (hs : Stir F w w') (hF : Sp F w) (hp : ¬ F p) (hc : ¬ F c) : PI.PipeAt p c room cl L w' :=
  h.keep hs hp hc (fun b x f e => by have := hF b _ f e; simp [plain, PI.TObj] at this)
end

/-- the reference's pipe, in memory -/
structure RefAt (B m room : Nat) (cl : Bool) (L : List Int) (w : World) : Prop where
  obj : ∃ v, w.heap[m]? = some (RObj room v cl) ∧ w.ownsRow B 3 1 v L.length (intVals L)
  low : B ≤ m
section
variable {w w' : World} {B m room : Nat} {cl : Bool} {L : List Int}
theorem RefAt.lt (h : RefAt B m room cl L w) : m < w.heap.size := by
  obtain ⟨v, h1, -⟩ := h.obj
  exact lt_of_heap h1
theorem ref_sp (h : RefAt B m room cl L w) : Sp (fun k => k = m) w := by
  obtain ⟨v, h1, -⟩ := h.obj
  rintro b o rfl e
  rw [h1] at e; rw [← Option.some.inj e]; rfl
theorem ref_keep {F : Nat → Prop} (h : RefAt B m room cl L w) (hs : Stir F w w') (hF : Sp F w) (hm : ¬ F m) : RefAt B m room cl L w' := by
  obtain ⟨v, h1, h2⟩ := h.obj
  exact ⟨⟨v, hs.keep h1 hm, row_stay hs hF h2 rfl⟩, h.low⟩
theorem RefAt.later (h : RefAt B m room cl L w) (k : Below w.heap.size w w') : RefAt B m room cl L w' := ref_keep h (Stir.of_below (F := fun _ => False) k) sp_none (fun f => f)
theorem RefAt.of_put {n : Nat} {xs : List Value} (h : RefAt B m room cl L w) {L' : List Int} (k : RPut m room cl n xs w w') (hn : L'.length = n) (hx : intVals L' = xs) : RefAt B m room cl L' w' := by
  obtain ⟨v, h1, h2, -⟩ := k
  refine ⟨⟨v, h1, ?_⟩, h.low⟩
  rw [hn, hx]
  exact ownsRow_low h2 (Nat.le_trans h.low (Nat.le_of_lt h.lt))
theorem one_ints (L : List Int) : ∀ u ∈ intVals L, u.oneCell' = true := by
  intro u hu
  obtain ⟨k, -, rfl⟩ := List.mem_map.1 hu
  rfl
/-- the list's place -/
theorem RefAt.cell (h : RefAt B m room cl L w) : ∃ a cap, w.cell? ⟨m, 1, none⟩ = some (.slice a L.length cap) := by
  obtain ⟨v, h1, h2⟩ := h.obj
  obtain ⟨a, cap, rfl⟩ := row_shape h2
  exact ⟨a, cap, RObj.c1 h1⟩

def sendB (cl : Bool) (room : Nat) (L : List Int) : Bool := !cl && decide (L.length < room)
def sendL (cl : Bool) (room : Nat) (L : List Int) (x : Int) : List Int := if sendB cl room L then L ++ [x] else L

theorem rsend_any (h : RefAt B m room cl L w) (hr2 : room ≤ 4096) (x : Int) :
    Calls Try.prog 13 #[.pointer (some ⟨m, 0, none⟩), .int .i64 x] w fun e w' => e = .returned (.bool (sendB cl room L)) ∧ RefAt B m room cl (sendL cl room L x) w' ∧ Stir (fun k => k = m) w w' := by
  obtain ⟨v, h1, h2⟩ := h.obj
  cases cl with
  | true => exact (rsend_shut h1 x).mono fun e w' ⟨he, hB⟩ => ⟨he, h.later hB, Stir.of_below hB⟩
  | false =>
    by_cases hr : L.length < room
    · rw [show sendB false room L = true by simp [sendB, hr]]
      rw [show sendL false room L x = L ++ [x] by simp [sendL, sendB, hr]]
      rcases h2.2 with ⟨rfl, h0⟩ | ⟨g, cap, cur, rfl, hg1, hg2, hg3, hg4, hg5, hg6⟩
      · obtain rfl : L = [] := List.eq_nil_of_length_eq_zero h0
        exact (rsend_nil h1 hr x).mono fun e w' ⟨he, k⟩ => ⟨he, h.of_put k rfl rfl, by obtain ⟨_, _, _, hs⟩ := k; exact hs⟩
      · rw [Nat.mul_one] at hg6
        exact (rsend_some h1 hg2 hg6 (by simp [intVals]) (one_ints L) hr hr2 x).mono fun e w' ⟨he, k⟩ => ⟨he, h.of_put k (by simp) (by simp [intVals]), by obtain ⟨_, _, _, hs⟩ := k; exact hs⟩
    · obtain ⟨a, cap, rfl⟩ := row_shape h2
      rw [show sendB false room L = false by simp [sendB, hr]]
      rw [show sendL false room L x = L by simp [sendL, sendB, hr]]
      exact (rsend_full h1 (by omega) x).mono fun e w' ⟨he, hB⟩ => ⟨he, h.later hB, Stir.of_below hB⟩
theorem rtake_x {x : Int} (h : RefAt B m room cl (x :: L) w) (hl : L.length ≤ 4096) :
    Calls Try.prog 15 #[.pointer (some ⟨m, 0, none⟩)] w fun e w' => e = .returned (.tuple #[.int .i64 x, .bool true]) ∧ RefAt B m room cl L w' ∧ Stir (fun k => k = m) w w' := by
  obtain ⟨v, h1, h2⟩ := h.obj
  rcases h2.2 with ⟨rfl, h0⟩ | ⟨g, cap, cur, rfl, hg1, hg2, hg3, hg4, hg5, hg6⟩
  · simp at h0
  · rw [Nat.mul_one] at hg6
    exact (rtake_some (n := L.length) h1 hg2 hg6 (by simp) (by simpa using hg3) (one_ints L) hl).mono fun e w' ⟨he, k⟩ => ⟨he, h.of_put k rfl rfl, by obtain ⟨_, _, _, hs⟩ := k; exact hs⟩
theorem rtake_0 (h : RefAt B m room cl [] w) :
    Calls Try.prog 15 #[.pointer (some ⟨m, 0, none⟩)] w fun e w' => e = .returned (.tuple #[.int .i64 0, .bool false]) ∧ w' = w := by
  obtain ⟨v, h1, h2⟩ := h.obj
  obtain ⟨a, cap, rfl⟩ := row_shape h2
  exact rtake_none h1
theorem rclose (h : RefAt B m room cl L w) :
    Calls Try.prog 17 #[.pointer (some ⟨m, 0, none⟩)] w fun e w' => e = .returned (.bool (!cl)) ∧ RefAt B m room true L w' ∧ Stir (fun k => k = m) w w' := by
  obtain ⟨v, h1, h2⟩ := h.obj
  exact (rclose_any h1).mono fun e w' ⟨he, k1, hs⟩ => ⟨he, ⟨⟨v, k1, row_stay hs (ref_sp h) h2 rfl⟩, h.low⟩, hs⟩
end

section
variable {w w' : World} {p c room : Nat} {cl : Bool} {L : List Int}
theorem psend_any (h : PI.PipeAt p c room cl L w) (x : Int) :
    Calls Try.prog 12 #[.pointer (some ⟨p, 0, none⟩), .int .i64 x] w fun e w' => e = .returned (.bool (sendB cl room L)) ∧ PI.PipeAt p c room cl (sendL cl room L x) w' ∧ Stir (fun k => k = p ∨ k = c) w w' := by
  cases cl with
  | true => exact (PI.send_shut h x).mono fun e w' ⟨he, hB⟩ => ⟨he, h.later hB, Stir.of_below hB⟩
  | false =>
    by_cases hr : L.length < room
    · rw [show sendB false room L = true by simp [sendB, hr]]
      rw [show sendL false room L x = L ++ [x] by simp [sendL, sendB, hr]]
      exact PI.send_room h hr x
    · rw [show sendB false room L = false by simp [sendB, hr]]
      rw [show sendL false room L x = L by simp [sendL, sendB, hr]]
      have := h.fits
      exact (PI.send_full h (by omega) x).mono fun e w' ⟨he, hB⟩ => ⟨he, h.later hB, Stir.of_below hB⟩
end

section
variable {w w' : World} {B m m' room room' : Nat} {cl cl' : Bool} {L L' : List Int} {x : Int}
theorem reither_first (h : RefAt B m room cl (x :: L) w) (hl : L.length ≤ 4096) (q : Nat) :
    Calls Try.prog 19 #[.pointer (some ⟨m, 0, none⟩), .pointer (some ⟨q, 0, none⟩)] w fun e w' => e = .returned (.tuple #[.int .i64 x, .int .i64 1]) ∧ RefAt B m room cl L w' ∧ Stir (fun k => k = m) w w' := by
  have H := Lib.hid h
  have HL := Lib.hid hl
  clear h hl
  go_enter Try.func19, Try.ntmps19
  go_wp2_with fail
  refine (rtake_x H.out HL.out).mono ?_
  rintro e w1 ⟨rfl, h1, hs⟩
  have H1 := Lib.hid (And.intro h1 hs)
  clear h1 hs
  go_wp2_with fail
  go_ret2
  exact ⟨rfl, H1.out⟩
theorem reither_second (h : RefAt B m room cl [] w) (k : RefAt B m' room' cl' (x :: L) w) (hl : L.length ≤ 4096) :
    Calls Try.prog 19 #[.pointer (some ⟨m, 0, none⟩), .pointer (some ⟨m', 0, none⟩)] w fun e w' => e = .returned (.tuple #[.int .i64 x, .int .i64 2]) ∧ RefAt B m' room' cl' L w' ∧ Stir (fun k => k = m') w w' := by
  have H := Lib.hid h
  have K := Lib.hid k
  have HL := Lib.hid hl
  clear h k hl
  go_enter Try.func19, Try.ntmps19
  go_wp2_with fail
  refine (rtake_0 H.out).mono ?_
  rintro e w1 ⟨rfl, rfl⟩
  go_wp2_with fail
  refine (rtake_x K.out HL.out).mono ?_
  rintro e w1 ⟨rfl, h1, hs⟩
  have H1 := Lib.hid (And.intro h1 hs)
  clear h1 hs
  go_wp2_with fail
  go_ret2
  exact ⟨rfl, H1.out⟩
theorem reither_none (h : RefAt B m room cl [] w) (k : RefAt B m' room' cl' [] w) :
    Calls Try.prog 19 #[.pointer (some ⟨m, 0, none⟩), .pointer (some ⟨m', 0, none⟩)] w fun e w' => e = .returned (.tuple #[.int .i64 0, .int .i64 0]) ∧ w' = w := by
  have H := Lib.hid h
  have K := Lib.hid k
  clear h k
  go_enter Try.func19, Try.ntmps19
  go_wp2_with fail
  refine (rtake_0 H.out).mono ?_
  rintro e w1 ⟨rfl, rfl⟩
  go_wp2_with fail
  refine (rtake_0 K.out).mono ?_
  rintro e w1 ⟨rfl, rfl⟩
  go_wp2_with fail
  go_ret2
  exact ⟨rfl, rfl⟩

theorem ref_other (h : RefAt B m room cl L w) (k : RefAt B m' room' cl' L' w) (hn : m ≠ m') (hs : Stir (fun k => k = m') w w') : RefAt B m room cl L w' := ref_keep h hs (ref_sp k) hn

set_option maxRecDepth 100000 in
set_option maxHeartbeats 1000000 in
theorem rmove_any (h : RefAt B m room cl L w) (k : RefAt B m' room' cl' L' w) (hn : m ≠ m') (hl : L.length ≤ 4096) (hr : room' ≤ 4096) :
    Calls Try.prog 20 #[.pointer (some ⟨m, 0, none⟩), .pointer (some ⟨m', 0, none⟩)] w fun e w' => e = .returned (.int .i64 (PI.mvN cl' room' L L')) ∧
      RefAt B m room cl (L.drop (PI.mvN cl' room' L L')) w' ∧ RefAt B m' room' cl' (L' ++ L.take (PI.mvN cl' room' L L')) w' ∧ Stir (fun k => k = m ∨ k = m') w w' := by
  obtain ⟨N, hN⟩ : ∃ N, PI.mvN cl' room' L L' = N := ⟨_, rfl⟩
  rw [hN]
  have hNL : N ≤ L.length := by rw [← hN]; unfold PI.mvN; split; exact Nat.zero_le _; exact Nat.min_le_left _ _
  have hNm : (N : Int) ≤ 4096 := by omega
  have HN := Lib.hid hN
  have H := Lib.hid h
  have K := Lib.hid k
  have HL := Lib.hid (And.intro hNL (And.intro hl hr))
  clear h k hN hNL hl hr
  go_enter Try.func20, Try.ntmps20
  go_wp2_with fail
  go_loopw [5] (fun i wr => ∃ j : Nat, j ≤ N ∧ i = .int .i64 j ∧ RefAt B m room cl (L.drop j) wr ∧ RefAt B m' room' cl' (L' ++ L.take j) wr ∧ Stir (fun k => k = m ∨ k = m') w wr) (fun i _ => N - (intOf i).toNat)
  case atStart => exact ⟨0, Nat.zero_le _, rfl, H.out, by simpa using K.out, Stir.refl _ _⟩
  case round =>
    obtain ⟨j, hj, rfl, h1, k1, hs⟩ := hrel
    have hB : Below wr.heap.size wr wr.drew := (Below.refl _ wr).drew
    have H1 := Lib.hid (h1.later hB)
    have K1 := Lib.hid (k1.later hB)
    have HS := Lib.hid (hs.and_below hB)
    have HJ := Lib.hid hj
    have hji : (j : Int) ≤ 4096 := by omega
    obtain ⟨a1, cap1, d1⟩ := h1.cell
    obtain ⟨a2, cap2, d2⟩ := k1.cell
    obtain ⟨v2, e2, -⟩ := k1.obj
    have d3 := RObj.c0 e2
    have d4 := RObj.c2 e2
    obtain ⟨n1, hn1⟩ : ∃ n1, (L.drop j).length = n1 := ⟨_, rfl⟩
    obtain ⟨n2, hn2⟩ : ∃ n2, (L' ++ L.take j).length = n2 := ⟨_, rfl⟩
    rw [hn1] at d1
    rw [hn2] at d2
    have HN1 := Lib.hid (And.intro hn1 hn2)
    clear h1 k1 hs hj e2 hn1 hn2 hB
    by_cases hc : 0 < n1 ∧ n2 < room' ∧ cl' = false
    · obtain ⟨c1, c2, rfl⟩ := hc
      have c1i : (0 : Int) < (n1 : Int) := by omega
      have c2i : (n2 : Int) < (room' : Int) := by omega
      have HC := Lib.hid (And.intro c1 c2)
      clear c2
      have HX : ∃ y, L.drop j = y :: L.drop (j + 1) ∧ L.take (j + 1) = L.take j ++ [y] := by
        have h1 := HN1.out.1
        have hlt : j < L.length := by rw [List.length_drop] at h1; omega
        exact ⟨L[j], List.drop_eq_getElem_cons hlt, List.take_succ_eq_append_getElem hlt⟩
      obtain ⟨y, hy1, hy2⟩ := HX
      have HY := Lib.hid hy2
      have hh := H1.out
      rw [hy1] at hh
      have H2 := Lib.hid hh
      have HJ2 := Lib.hid (show j + 1 ≤ N by
        have h1 := HN.out
        have h2 := HN1.out
        have h3 := HC.out
        unfold PI.mvN at h1
        simp [List.length_take] at h1 h2
        omega)
      have hsb := Lib.hid (show sendB false room' (L' ++ L.take j) = true by
        unfold sendB
        rw [HN1.out.2]
        simp
        exact HC.out.2)
      clear hh hy1 hy2 H1
      go_wp2_with fail
      go_region
      all_goals (
        go_wp2_with fail
        refine (rtake_x H2.out (by have := HL.out; rw [List.length_drop]; omega)).mono ?_
        rintro e w2 ⟨rfl, h3, hs3⟩
        have K3 := Lib.hid (ref_other K1.out H2.out (Ne.symm hn) hs3)
        have S3 := Lib.hid (HS.out.trans hs3 (fun i hi => Or.inl (Or.inl hi)))
        have H3 := Lib.hid h3
        clear h3 hs3
        go_wp2_with fail
        refine (rsend_any K3.out HL.out.2.2 y).mono ?_
        rintro e w3 ⟨he, k4, hs4⟩
        unfold sendL at k4
        rw [hsb.out] at he k4
        subst he
        rw [if_pos rfl, List.append_assoc, ← HY.out] at k4
        have H4 := Lib.hid (ref_other H3.out K3.out hn hs4)
        have S4 := Lib.hid (S3.out.trans hs4 (fun i hi => Or.inl (Or.inr hi)))
        have K4 := Lib.hid k4
        clear k4 hs4
        go_wp2_with fail
        go_roundw
        case rel => exact ⟨j + 1, HJ2.out, by go_num, H4.out, K4.out, S4.out⟩
        case measure => have := HJ2.out; simp [intOf]; omega)
    · have hc' : n1 = 0 ∨ (0 < n1 ∧ ¬ n2 < room') ∨ (0 < n1 ∧ n2 < room' ∧ cl' = true) := by
        cases cl' <;> simp at hc ⊢ <;> omega
      have e : j = N := by
        have h1 := HN.out
        have h2 := HN1.out
        have h3 := HL.out
        have h4 := HJ.out
        unfold PI.mvN at h1
        simp [List.length_take] at h2
        cases cl'
        · simp at h1 hc
          omega
        · simp at h1
          omega
      subst e
      clear hc
      rcases hc' with rfl | ⟨c1, c2⟩ | ⟨c1, c2, rfl⟩
      · go_wp2_with fail
        go_region
        all_goals (
          go_wp2_with fail
          go_ret
          exact ⟨rfl, H1.out, K1.out, HS.out⟩)
      · have c1i : (0 : Int) < (n1 : Int) := by omega
        have c2i : ¬ (n2 : Int) < (room' : Int) := by omega
        have c2d : decide (n2 < room') = false := by simpa using c2
        go_wp2_with fail
        go_region
        all_goals (
          go_wp2_with fail
          go_ret
          exact ⟨rfl, H1.out, K1.out, HS.out⟩)
      · have c1i : (0 : Int) < (n1 : Int) := by omega
        have c2i : (n2 : Int) < (room' : Int) := by omega
        go_wp2_with fail
        go_region
        all_goals (
          go_wp2_with fail
          go_ret
          exact ⟨rfl, H1.out, K1.out, HS.out⟩)
end
end Go.Proofs.Ytmlemgifejefiaa
