/-
  One instance of a pipe: Close, Either, Move.
-/
import Derived.Test.YtmlemgifejefiaaPipIB
import Derived.Test.YtmlemgifejefiaaPipSB
import Derived.LaidEqlPtr
import Derived.OwnWalk
namespace Go.Proofs.Ytmlemgifejefiaa.PI
open Go.RowKit Go Go.Conc

theorem pipeInfo : ∃ j, Try.prog.info? 62 = some j ∧ j.size ≠ 0 := by
  have h : (Try.prog.info? 62).map (fun i => i.size) = some 2 := by kernel_rfl
  obtain ⟨j, h1, h2⟩ := Option.map_eq_some_iff.1 h
  exact ⟨j, h1, by rw [h2]; decide⟩

/-- how many things go from the one to the other -/
def mvN (closed' : Bool) (room' : Nat) (L M : List Int) : Nat := if closed' then 0 else min L.length (room' - M.length)

section
variable {w w' : World} {p c q d room room' : Nat} {closed closed' : Bool} {L M : List Int} {x : Int}
theorem close_any (h : PipeAt p c room closed L w) :
    Calls Try.prog 16 #[.pointer (some ⟨p, 0, none⟩)] w fun e w' => e = .returned (.bool (!closed)) ∧ PipeAt p c room true L w' ∧ Stir (fun k => k = p ∨ k = c) w w' := by
  have c1 := PObj.c1 h.obj
  have f1 := PObj.fr h.obj 1
  have H := Lib.hid h
  clear h
  go_enter Try.func16, Try.ntmps16
  go_wp2
  go_ret
  obtain ⟨bs, s, r, hc, hh⟩ := H.out.chan
  have hS : Stir (fun k => k = p) w (w.setCell ⟨p, 1, none⟩ (.bool true)) := (Stir.refl (fun k => k = p) w).set (Or.inl rfl) _
  exact ⟨rfl, ⟨PObj.set1 H.out.obj true, ⟨bs, s, r, hS.keep hc (Ne.symm H.out.ne), Holds.keep hS (fun b y e => H.out.no_thing b y (Or.inl e)) hh⟩, H.out.fits, H.out.small⟩, hS.weaken (fun k e => Or.inl e)⟩

theorem either_first (h : PipeAt p c room closed (x :: L) w) (q : Nat) :
    Calls Try.prog 18 #[.pointer (some ⟨p, 0, none⟩), .pointer (some ⟨q, 0, none⟩)] w fun e w' => e = .returned (.tuple #[.int .i64 x, .int .i64 1]) ∧ PipeAt p c room closed L w' ∧ Stir (fun k => k = p ∨ k = c) w w' := by
  have H := Lib.hid h
  clear h
  go_enter Try.func18, Try.ntmps18
  go_wp2_with fail
  refine (take_some H.out).mono ?_
  rintro e w1 ⟨rfl, h1, hs⟩
  have H1 := Lib.hid (And.intro h1 hs)
  clear h1 hs
  go_wp2_with fail
  go_ret2
  exact ⟨rfl, H1.out⟩
theorem either_second (h : PipeAt p c room closed [] w) (k : PipeAt q d room' closed' (x :: M) w) :
    Calls Try.prog 18 #[.pointer (some ⟨p, 0, none⟩), .pointer (some ⟨q, 0, none⟩)] w fun e w' => e = .returned (.tuple #[.int .i64 x, .int .i64 2]) ∧ PipeAt q d room' closed' M w' ∧ Stir (fun k => k = q ∨ k = d) w w' := by
  have H := Lib.hid h
  have K := Lib.hid k
  clear h k
  go_enter Try.func18, Try.ntmps18
  go_wp2_with fail
  refine (take_none H.out).mono ?_
  rintro e w1 ⟨rfl, rfl⟩
  go_wp2_with fail
  refine (take_some K.out).mono ?_
  rintro e w2 ⟨rfl, h1, hs⟩
  have H1 := Lib.hid (And.intro h1 hs)
  clear h1 hs
  go_wp2_with fail
  go_ret2
  exact ⟨rfl, H1.out⟩
theorem either_none (h : PipeAt p c room closed [] w) (k : PipeAt q d room' closed' [] w) :
    Calls Try.prog 18 #[.pointer (some ⟨p, 0, none⟩), .pointer (some ⟨q, 0, none⟩)] w fun e w' => e = .returned (.tuple #[.int .i64 (0 : Int), .int .i64 0]) ∧ w' = w := by
  have H := Lib.hid h
  have K := Lib.hid k
  clear h k
  go_enter Try.func18, Try.ntmps18
  go_wp2_with fail
  refine (take_none H.out).mono ?_
  rintro e w1 ⟨rfl, rfl⟩
  go_wp2_with fail
  refine (take_none K.out).mono ?_
  rintro e w1 ⟨rfl, rfl⟩
  go_wp2_with fail
  go_ret2
  exact ⟨rfl, rfl⟩

/-- two pipes -/
structure Two (p c q d : Nat) : Prop where
  pq : p ≠ q
  cd : c ≠ d
/-- a pipe stays where another one turned -/
theorem PipeAt.other (h : PipeAt p c room closed L w) (k : PipeAt q d room' closed' M w) (hn : Two p c q d) (hs : Stir (fun k => k = q ∨ k = d) w w') : PipeAt p c room closed L w' := by
  obtain ⟨bs, s, r, hc, -⟩ := h.chan
  obtain ⟨bs', s', r', hd, -⟩ := k.chan
  refine h.keep hs ?_ ?_ (fun b x hb => k.no_thing b x hb)
  · rintro (e | e)
    · exact hn.pq e
    · exact ne_of_heap h.obj hd (by intro e; cases e) e
  · rintro (e | e)
    · exact ne_of_heap hc k.obj (by intro e; cases e) e
    · exact hn.cd e
theorem Two.symm (h : Two p c q d) : Two q d p c := ⟨Ne.symm h.pq, Ne.symm h.cd⟩

theorem move_self (_h : PipeAt p c room closed L w) :
    Calls Try.prog 21 #[.pointer (some ⟨p, 0, none⟩), .pointer (some ⟨p, 0, none⟩)] w fun e w' => e = .returned (.int .i64 0) ∧ w' = w := by
  obtain ⟨j, hj, hsz⟩ := pipeInfo
  have heq := run_eql_ptr_same (P := Try.prog) (w := w) ⟨p, 0, none⟩ Try.underlying33 hj
  clear hj hsz
  go_enter Try.func21, Try.ntmps21
  go_wp2_with fail
  go_ret
  exact ⟨rfl, rfl⟩

set_option maxRecDepth 100000 in
set_option maxHeartbeats 1000000 in
theorem move_any (h : PipeAt p c room closed L w) (k : PipeAt q d room' closed' M w) (hn : Two p c q d) :
    Calls Try.prog 21 #[.pointer (some ⟨p, 0, none⟩), .pointer (some ⟨q, 0, none⟩)] w fun e w' => e = .returned (.int .i64 (mvN closed' room' L M)) ∧
      PipeAt p c room closed (L.drop (mvN closed' room' L M)) w' ∧ PipeAt q d room' closed' (M ++ L.take (mvN closed' room' L M)) w' ∧ Stir (fun k => (k = p ∨ k = c) ∨ (k = q ∨ k = d)) w w' := by
  obtain ⟨j, hj, hsz⟩ := pipeInfo
  have heq := run_eql_ptr_other (P := Try.prog) (w := w) (a := ⟨p, 0, none⟩) (b := ⟨q, 0, none⟩) Try.underlying33 hj hsz (fun e => hn.pq (congrArg Addr.block e)) h.obj k.obj
  obtain ⟨N, hN⟩ : ∃ N, mvN closed' room' L M = N := ⟨_, rfl⟩
  rw [hN]
  have HN := Lib.hid hN
  have hNL : N ≤ L.length := by rw [← hN]; unfold mvN; split; exact Nat.zero_le _; exact Nat.min_le_left _ _
  have hNm : (N : Int) ≤ 4096 := by have := h.fits; have := h.small; omega
  have H := Lib.hid h
  have K := Lib.hid k
  have HT := Lib.hid hn
  have HL := Lib.hid hNL
  clear h k hn hj hsz hN hNL
  go_enter Try.func21, Try.ntmps21
  go_wp2_with fail
  go_loopw [5] (fun i wr => ∃ j : Nat, j ≤ N ∧ i = .int .i64 j ∧ PipeAt p c room closed (L.drop j) wr ∧ PipeAt q d room' closed' (M ++ L.take j) wr ∧ Stir (fun k => (k = p ∨ k = c) ∨ (k = q ∨ k = d)) w wr) (fun i _ => N - (intOf i).toNat)
  case atStart => exact ⟨0, Nat.zero_le _, rfl, H.out, by simpa using K.out, Stir.refl _ _⟩
  case round =>
    obtain ⟨j, hj, rfl, h1, k1, hs⟩ := hrel
    have H1 := Lib.hid h1
    have K1 := Lib.hid k1
    have HS := Lib.hid hs
    have HJ := Lib.hid hj
    have hji : (j : Int) ≤ 4096 := by omega
    clear h1 k1 hs hj heq
    cases hA : (!closed' && decide ((M ++ L.take j).length < room')) with
    | false =>
      have HA := Lib.hid hA
      clear hA
      go_wp2_with fail
      refine (letsIn_any K1.out).mono ?_
      rintro e w1 ⟨he, hB⟩
      rw [HA.out] at he
      subst he
      have HB := Lib.hid hB
      clear hB
      go_wp2_with fail
      go_ret
      have e : j = N := by
        have h1 := HN.out
        have h2 := HJ.out
        have h3 := HL.out
        have h4 := HA.out
        unfold mvN at h1
        cases closed'
        · simp [List.length_take] at h1 h4
          omega
        · simp at h1
          omega
      subst e
      exact ⟨rfl, H1.out.later HB.out, K1.out.later HB.out, HS.out.and_below HB.out⟩
    | true =>
      have HA := Lib.hid hA
      clear hA
      go_wp2_with fail
      refine (letsIn_any K1.out).mono ?_
      rintro e w1 ⟨he, hB⟩
      rw [HA.out] at he
      subst he
      have h2 := H1.out.later hB
      have k2 := K1.out.later hB
      have s2 := HS.out.and_below hB
      have hcl : closed' = false ∧ (M ++ L.take j).length < room' := by
        have h4 := HA.out
        simpa using h4
      obtain ⟨rfl, hroom⟩ := hcl
      clear hB
      by_cases hlt : j < L.length
      · rw [List.drop_eq_getElem_cons hlt] at h2
        have HK2 := Lib.hid k2
        have HH2 := Lib.hid h2
        have S2 := Lib.hid s2
        have HR := Lib.hid hroom
        have HX := Lib.hid (show M ++ L.take (j + 1) = M ++ L.take j ++ [L[j]] by rw [List.take_succ_eq_append_getElem hlt, List.append_assoc])
        have HLT := Lib.hid hlt
        have HJ2 := Lib.hid (show j + 1 ≤ N by
          have h1 := HN.out
          unfold mvN at h1
          simp [List.length_take] at h1 hroom
          omega)
        clear h2 k2 s2 hroom
        generalize L[j] = y at *
        clear hlt
        go_wp2_with fail
        refine (take_some HH2.out).mono ?_
        rintro e w2 ⟨rfl, h3, hs3⟩
        have k3 := HK2.out.other HH2.out HT.out.symm hs3
        have s3 := S2.out.trans hs3 (fun i hi => Or.inl (Or.inl hi))
        have HH3 := Lib.hid h3
        have HK3 := Lib.hid k3
        have S3 := Lib.hid s3
        clear h3 k3 s3 hs3
        go_wp2_with fail
        refine (send_room HK3.out HR.out y).mono ?_
        rintro e w3 ⟨rfl, k4, hs4⟩
        have h4 := HH3.out.other HK3.out HT.out hs4
        have s4 := S3.out.trans hs4 (fun i hi => Or.inl (Or.inr hi))
        have HH4 := Lib.hid h4
        have HK4 := Lib.hid k4
        have S4 := Lib.hid s4
        clear h4 k4 s4 hs4
        go_wp2_with fail
        go_roundw
        case rel => exact ⟨j + 1, HJ2.out, by go_num, HH4.out, by rw [HX.out]; exact HK4.out, S4.out⟩
        case measure => have := HJ2.out; simp [intOf]; omega
      · have hd : L.drop j = [] := List.drop_eq_nil_of_le (by omega)
        have HD := Lib.hid hd
        rw [hd] at h2
        have HK2 := Lib.hid k2
        have HH2 := Lib.hid h2
        have S2 := Lib.hid s2
        have e : j = N := by
          have h2 := HJ.out
          have h3 := HL.out
          omega
        subst e
        clear hd h2 k2 s2 hroom hlt
        go_wp2_with fail
        refine (take_none HH2.out).mono ?_
        rintro e w2 ⟨rfl, rfl⟩
        go_wp2_with fail
        go_ret
        exact ⟨rfl, by rw [HD.out]; exact HH2.out, HK2.out, S2.out⟩
end
end Go.Proofs.Ytmlemgifejefiaa.PI
