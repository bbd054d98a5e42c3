/-
  The reference: comes, Take.
-/
import Derived.Test.YtiiplchakanomaaLnkRa
import Derived.Deep.RegionLaw
namespace Go.Proofs.Ytiiplchakanomaa
open Go.RowKit Go

section
variable {w : World} {b room : Nat} {v u : Value} {L : List ByteArray} {T : List Lte} {G : Nat → Prop}
theorem grown_row {w w' : World} (hB : Below w.heap.size w w') (r : Option Nat) : w.grownBy w' r := ⟨hB.os, hB.tape, hB.output, hB.size, fun k hk _ => hB.block k hk⟩
/-- an empty list that is made -/
theorem made_none (w : World) (e : TypeId) (size : Nat) : (w.alloc (.cells #[] e)).ownsRow w.heap.size e size (.slice (some ⟨w.heap.size, 0, none⟩) 0 0) 0 [] :=
  World.ownsRow_made (e := e) (size := size) w #[] 0 (Nat.le_refl _) (by decide) (by simp)
set_option maxRecDepth 100000 in
set_option maxHeartbeats 1000000 in
theorem rcomes_any (h : RAt room L T b v u G w) (hr : room ≤ 4096) (s : ByteArray) :
    Calls Try.prog 22 #[.pointer (some ⟨b, 0, none⟩), .string s] w fun e w' => e = .returned (.tuple #[]) ∧ RPutU room (comesL room L s) T b u G w w' := by
  obtain ⟨i0, hi0, hz0, hz1, hz2⟩ := info_parts infoStr
  obtain ⟨a, cap, rfl⟩ := h.waits.shape
  have c0 := RObj.c0 h.obj
  have c1 := RObj.c1 h.obj
  have H := Lib.hid h
  by_cases hlt : L.length < room
  · have hli : (L.length : Int) < (room : Int) := by omega
    have HC := Lib.hid (show comesL room L s = L ++ [s] by rw [comesL, if_pos hlt])
    have hroom : L.length < 4096 := by omega
    have HR := Lib.hid hroom
    have hB0 : Below w.heap.size w (w.alloc (.cells #[] 9)).drew := ((Below.refl _ w).alloc (Nat.le_refl _) _).drew
    have h0 := h.later hB0
    have d1 : (w.alloc (.cells #[] 9)).cell? ⟨b, 1, none⟩ = some (.slice a L.length cap) := RObj.c1 h0.obj
    have O0 := Lib.hid (show (w.alloc (.cells #[] 9)).drew.ownsRow w.heap.size 9 1 (.slice (some ⟨w.heap.size, 0, none⟩) 0 0) 0 [] from made_none w 9 1)
    have HB0 := Lib.hid hB0
    have HA0 := Lib.hid h0
    clear h hr hlt hroom hB0 h0
    go_enter Try.func22, Try.ntmps22
    go_wp2_with fail
    go_region
    all_goals (
      go_wp2_with (at_builtin; go_loud (first
        | ((refine wpList_append_src rfl _ _ 29 rfl w.heap.size 9 i0 (.string ⟨#[]⟩) 1 16 Try.underlying29 hi0 hz0 hz1 hz2 rfl (by decide) _ 0 [] rfl O0.out _ L.length (strVals L) rfl (SrcAt.off HA0.out.waits) (strVals_one L) (by have := HR.out; unfold maxLen; omega) (by have := HR.out; omega) (by simp) ?_)
           intro v1 w1 hown1 hgrow1 _
           have hB1 : Below w.heap.size w w1 := HB0.out.grown hgrow1 (by simp) (fun j ej => (O0.out.lt j ej).1)
           have O1 := Lib.hid hown1
           have HB1 := Lib.hid hB1
           clear hown1 hgrow1 hB1 O0 HA0)
        | ((refine wpList_append_src rfl _ _ 29 rfl w.heap.size 9 i0 (.string ⟨#[]⟩) 1 16 Try.underlying29 hi0 hz0 hz1 hz2 rfl (by decide) _ (0 + L.length) _ rfl (O1.out.alloc _) _ 1 [.string s] rfl (SrcAt.lit _ _) (fun u hu => by obtain rfl := List.mem_singleton.1 hu; rfl) (by have := HR.out; unfold maxLen; omega) (by have := HR.out; omega) (Nat.le_trans HB1.out.size (by simp)) ?_)
           intro v2 w2 hown2 hgrow2 _
           have hB2 : Below w.heap.size w w2 := (HB1.out.alloc HB1.out.size _).grown hgrow2 (Nat.le_trans HB1.out.size (by simp)) (fun j ej => (O1.out.lt j ej).1)
           obtain ⟨a2, cap2, rfl⟩ := row_shape hown2
           have ho := H.out.obj1 (grown_row hB2 _)
           have e1 := RObj.c1 ho
           have f1 := RObj.fr ho 1
           have O2 := Lib.hid hown2
           have HB2 := Lib.hid hB2
           clear hown2 hgrow2 hB2 ho)))
      go_end0
      refine ⟨rfl, ?_⟩
      rw [HC.out]
      have hO := O2.out
      rw [Nat.zero_add, List.nil_append] at hO
      refine H.out.put1 (L' := L ++ [s]) ?_ (grown_row HB2.out _) (fun k hk => .inr (hO.lt k hk).1)
      rw [strVals_snoc, List.length_append]
      exact offRow_of_owns hO)
  · have hli : ¬ (L.length : Int) < (room : Int) := by omega
    have HC := Lib.hid (show comesL room L s = L by rw [comesL, if_neg hlt])
    clear h hr hlt
    go_enter Try.func22, Try.ntmps22
    go_wp2_with fail
    go_region
    all_goals (
      go_wp2_with fail
      go_end0
      refine ⟨rfl, ?_⟩
      rw [HC.out]
      exact RPutU.none H.out (Below.refl _ _).drew)
theorem tail_off {w : World} {e : TypeId} {a : Option Addr} {n cap : Nat} {x : Value} {xs : List Value} (h : offRow w e (.slice a (n + 1) cap) (n + 1) (x :: xs)) :
    ∃ g off o, a = some ⟨g, off, none⟩ ∧ w.cell? ⟨g, off, none⟩ = some x ∧ n + 1 ≤ cap ∧ (if cap = 1 then some (⟨g, off, none⟩ : Addr) else some ⟨g, off + 1, none⟩) = some ⟨g, o, none⟩ ∧ offRow w e (.slice (some ⟨g, o, none⟩) n (cap - 1)) n xs := by
  rcases h.2 with ⟨_, e⟩ | ⟨g, off, cap', cur, e, hg, hnc, hcm, hcs, htake⟩
  · simp at e
  · injection e with e1 e2 e3
    subst e1 e3
    have hxl : xs.length = n := by have := h.1; simpa using this
    refine ⟨g, off, if cap = 1 then off else off + 1, rfl, ?_, hnc, by split <;> rfl, hxl, .inr ⟨g, _, cap - 1, cur, rfl, hg, by omega, by omega, ?_, ?_⟩⟩
    · have := h.cells rfl 0 (by omega) (by simp)
      simpa using this
    · split <;> omega
    · split
      · have e : n = 0 := by omega
        subst e
        rw [List.length_eq_zero_iff.1 hxl]
        rfl
      · have e := congrArg List.tail htake
        rw [← List.drop_one, List.drop_take, List.drop_drop] at e
        simpa using e
set_option maxRecDepth 100000 in
set_option maxHeartbeats 1000000 in
theorem rtake_any (h : RAt room L T b v u G w) (hn : L.length ≤ 4096) :
    Calls Try.prog 14 #[.pointer (some ⟨b, 0, none⟩)] w fun e w' => e = .returned (.tuple #[.string (L.headD ⟨#[]⟩), .bool (!L.isEmpty)]) ∧ RPut room L.tail T b G w w' := by
  obtain ⟨i0, hi0, hz0, hz1, hz2⟩ := info_parts infoStr
  have H := Lib.hid h
  cases L with
  | nil =>
    obtain ⟨a, cap, rfl⟩ := h.waits.shape
    have c1 := RObj.c1 h.obj
    clear h hn
    go_enter Try.func14, Try.ntmps14
    go_wp2_with fail
    go_ret2
    exact ⟨rfl, RPut.none H.out (Below.refl _ _)⟩
  | cons s L =>
    obtain ⟨a, cap, rfl⟩ := h.waits.shape
    have hB0 : Below w.heap.size w (w.alloc (.cells #[] 9)) := (Below.refl _ w).alloc (Nat.le_refl _) _
    have h0 := h.later hB0
    have c1 := RObj.c1 h.obj
    have d1 := RObj.c1 h0.obj
    have hw := h0.waits
    rw [show (s :: L).length = L.length + 1 from rfl] at hw c1 d1 H
    obtain ⟨g, off, o, rfl, -, hnc, hsl, ho⟩ := tail_off (x := .string s) (xs := strVals L) hw
    have cg : w.cell? ⟨g, off, none⟩ = some (.string s) := by
      have := h.waits.cells rfl 0 (by simp) (by simp [strVals])
      simpa [strVals] using this
    have O0 := Lib.hid (made_none w 9 1)
    have HB0 := Lib.hid hB0
    have HS := Lib.hid (SrcAt.off ho)
    have hnl : L.length ≤ 4096 := by simp at hn; omega
    have HL := Lib.hid hnl
    have hni : ((L.length : Int) + 1 == 0) = false := beq_eq_false_iff_ne.2 (by omega)
    have hnp : (0 : Int) < (L.length : Int) + 1 := by omega
    have hci : (1 : Int) ≤ (L.length : Int) + 1 := by omega
    have hs1 : L.length + 1 - 1 = L.length := by omega
    clear h hn h0 hB0 hw ho hnl
    go_enter Try.func14, Try.ntmps14
    go_wp2_with (at_builtin; go_loud (
      (refine wpList_append_src rfl _ _ 29 rfl w.heap.size 9 i0 (.string ⟨#[]⟩) 1 16 Try.underlying29 hi0 hz0 hz1 hz2 rfl (by decide) _ 0 [] rfl O0.out _ L.length (strVals L) rfl HS.out (strVals_one L) (by have := HL.out; unfold maxLen; omega) (by have := HL.out; omega) (by simp) ?_)
      intro v1 w1 hown1 hgrow1 _
      have hB1 : Below w.heap.size w w1 := HB0.out.grown hgrow1 (by simp) (fun j ej => (O0.out.lt j ej).1)
      obtain ⟨a2, cap2, rfl⟩ := row_shape hown1
      have ho := H.out.obj1 (grown_row hB1 _)
      have e1 := RObj.c1 ho
      have f1 := RObj.fr ho 1
      have O1 := Lib.hid hown1
      have HB1 := Lib.hid hB1
      clear hown1 hgrow1 hB1 ho O0))
    go_ret2
    have hO := O1.out
    rw [Nat.zero_add, List.nil_append] at hO
    have hl : (0 + L.length) = L.length := Nat.zero_add _
    refine ⟨rfl, ?_⟩
    have hP := (H.out.put1 (L' := L) (offRow_of_owns hO) (grown_row HB1.out _) (fun k hk => .inr (hO.lt k hk).1)).put
    first | exact hP | simpa using hP
end
end Go.Proofs.Ytiiplchakanomaa

