/-
  A reader: Nums, told with where the list lies: in new memory.
-/
import Derived.Test.YtmcmhmcihbhmhaaDoorWirI
namespace Go.Proofs.YtmcmhmcihbhmhaaDoor
open Go.RowKit Go

/-- a slice that lies from block B on -/
def Fresh (B : Nat) (v : Value) : Prop := ∀ b off n cap, v = .slice (some ⟨b, off, none⟩) n cap → B ≤ b
theorem Fresh.nil (B : Nat) : Fresh B (.slice none 0 0) := fun _ _ _ _ e => by cases e
theorem Fresh.owned {W : World} {base : Nat} {e : TypeId} {v : Value} {n : Nat} {xs : List Value} (h : W.ownsRow base e 1 v n xs) : Fresh base v := fun b off m cap e => by
  rcases h.2 with ⟨h1, _⟩ | ⟨g, cp, cur, h1, h2, _⟩
  · rw [h1] at e; cases e
  · rw [h1] at e; cases e; exact h2
/-- such a list stays, whatever a reader of elder memory does -/
theorem IntsAt.moved {W W' : World} {v : Value} {zs : List Int} {b B : Nat} {o : Obj} (h : IntsAt W v zs) (hf : Fresh B v) (hM : Moved b o W W') (hb : b < B) : IntsAt W' v zs :=
  h.same hM.size fun c off cap e hc => hM.block c hc (by have := hf c off _ cap e; omega)

set_option maxRecDepth 100000 in
set_option maxHeartbeats 4000000 in
theorem qnums_own (b : Nat) (hb0 : b ≠ 0) (r : Rd) (many most : Int) (hs : r.rest.length ≤ 281474976710656) (w : World) (hg : GE w) (hb : w.heap[b]? = some (RO r)) :
    Calls Tryd.prog 23 #[.pointer (some ⟨b, 0, none⟩), .int .i64 many, .int .i64 most] w fun v w' => (∃ l, v = .returned (.tuple #[l, .int .i64 (numsR r many most).2.err]) ∧ IntsAt w' l (toInts (numsR r many most).1) ∧ Fresh w.heap.size l) ∧ Moved b (RO (numsR r many most).2) w w' := by
  have hlow := low_walk many
  have hbl := lt_of_heap hb
  have HT := Lib.hid (show numsR r many most = manyR (numR r (low many)).1 (numR r (low many)).2 most [] from rfl)
  have C := rnum_any b r (low many) hs
  have hn := numR_low r many
  have hr := numR_rest r (low many)
  obtain ⟨i0, hi, hz0, hz1, hz2⟩ := info_parts info3
  generalize low many = m at *
  generalize numR r m = p at *
  obtain ⟨N, r1⟩ := p
  have hr1 : r1.rest.length ≤ 281474976710656 := Nat.le_trans hr hs
  have hN : N ≤ 65536 := hn
  clear hn hr
  go_enter Tryd.func23, Tryd.ntmps23
  go_wp2_with fail
  refine (C _ hb).mono ?_
  rintro e w1 ⟨rfl, hM1⟩
  have hM1' : Moved b (RO r1) w w1 := hM1
  clear hM1 C
  go_wp2_with fail
  go_loopw [8, 13] (fun v i wr => ∃ (k : Nat) (acc : List Nat) (rk : Rd), k ≤ N ∧ i = .int .i64 k ∧ acc.length = k ∧ rk.rest.length ≤ 281474976710656 ∧ numsR r many most = manyR (N - k) rk most acc ∧ wr.ownsRow w.heap.size 3 1 v acc.length (ints acc) ∧ Moved b (RO rk) w wr) (fun _ i _ => N - (intOf i).toNat)
  case atStart => exact ⟨0, [], r1, Nat.zero_le _, rfl, rfl, hr1, HT.out, World.ownsRow_nil _ _ _ _, hM1'⟩
  case round =>
    clear hM1' HT hlow hr1
    obtain ⟨k, acc, rk, hk, rfl, hacc, hrk, heq, hrow, hM⟩ := hrel
    have HE := Lib.hid heq
    have HM := Lib.hid hM
    have HR := Lib.hid hrow
    clear heq hM hrow
    by_cases hlt : k < N
    · have hk1 : (k : Int) < (N : Int) := by omega
      have C := rnum_any b rk most hrk wr HM.out.here
      have hrk2 := numR_rest rk most
      have HS := Lib.hid (show manyR (N - k) rk most acc = if (numR rk most).2.err = 0 then manyR (N - (k + 1)) (numR rk most).2 most (acc ++ [(numR rk most).1]) else ([], (numR rk most).2) by
        rw [show N - k = (N - (k + 1)) + 1 by omega, manyR])
      generalize numR rk most = q at *
      obtain ⟨x, rq⟩ := q
      have hrq : rq.rest.length ≤ 281474976710656 := Nat.le_trans hrk2 hrk
      go_wp2_with fail
      refine C.mono ?_
      rintro e w2 ⟨rfl, hM2⟩
      have hM2' : Moved b (RO rq) wr w2 := hM2
      have hrow2 := owns_moved HR.out hM2' hbl
      have hM3 : Moved b (RO rq) w w2 := HM.out.trans hM2'
      have hsz := hM3.size
      have HM3 := Lib.hid hM3
      rw [hacc] at hrow2
      clear hM2 hM2' hM3 HR C HM
      by_cases herr : rq.err = 0
      · have HS2 := Lib.hid (show numsR r many most = manyR (N - (k + 1)) rq most (acc ++ [x]) by rw [HE.out, HS.out]; exact if_pos herr)
        clear HS HE
        go_wp2_with (at_builtin; refine wpList_append_own _ rfl _ _ 22 rfl w.heap.size 3 i0 (.int .i64 0) 1 8 Tryd.underlying22 hi hz0 hz1 hz2 rfl (by decide) _ _ _ rfl (hrow2.alloc _) ⟨w2.heap.size, 0, none⟩ 1 1 [.int .i64 x] rfl rfl (cell_one_new _ _ _) (by simp [Value.oneCell']) (by unfold maxLen; omega) (by omega) (by simp; omega) ?_; intro v' w3 hown' hgrow _; have hB3 : Below w.heap.size w2 w3 := ((Below.refl _ w2).alloc hsz _).grown hgrow (by simp; omega) (fun j ej => (hrow2.lt j ej).1); have hM4 := HM3.out.andB hbl hB3; have c1 := RO.c1 hM4.here; rw [herr, errV_zero] at c1; have HM4 := Lib.hid hM4; have HO := Lib.hid hown'; clear hM4 hown' hgrow hB3)
        go_roundw
        case rel => exact ⟨k + 1, acc ++ [x], rq, by omega, by go_num, by simp [hacc], hrq, HS2.out, by rw [List.length_append, hacc, ints_snoc]; exact HO.out, HM4.out⟩
        case measure => simp [intOf]; omega
      · have HS2 := Lib.hid (show numsR r many most = ([], rq) by rw [HE.out, HS.out]; exact if_neg herr)
        clear HS HE
        go_wp2_with (at_builtin; refine wpList_append_own _ rfl _ _ 22 rfl w.heap.size 3 i0 (.int .i64 0) 1 8 Tryd.underlying22 hi hz0 hz1 hz2 rfl (by decide) _ _ _ rfl (hrow2.alloc _) ⟨w2.heap.size, 0, none⟩ 1 1 [.int .i64 x] rfl rfl (cell_one_new _ _ _) (by simp [Value.oneCell']) (by unfold maxLen; omega) (by omega) (by simp; omega) ?_; intro v' w3 hown' hgrow _; have hB3 : Below w.heap.size w2 w3 := ((Below.refl _ w2).alloc hsz _).grown hgrow (by simp; omega) (fun j ej => (hrow2.lt j ej).1); have hM4 := HM3.out.andB hbl hB3; have c1 := RO.c1 hM4.here; have hg4 := hg.moved hM4 hb0; rw [errV_ne herr] at c1; have HM4 := Lib.hid hM4; clear hM4 hown' hgrow hB3)
        refine (errno_flt _ _ hg4).mono ?_
        rintro e w4 ⟨rfl, hB4⟩
        go_wp2_with fail
        go_ret2
        rw [HS2.out]
        exact ⟨⟨_, rfl, IntsAt.empty rfl, Fresh.nil _⟩, HM4.out.and hB4⟩
    · obtain rfl : k = N := by omega
      have HS2 := Lib.hid (show numsR r many most = (acc, rk) by rw [HE.out, Nat.sub_self]; rfl)
      have c1 := RO.c1 HM.out.here
      have hg1 := hg.moved HM.out hb0
      have C := errno_any rk.err wr hg1
      clear HE
      go_wp2_with fail
      refine C.mono ?_
      rintro e w4 ⟨rfl, hB4⟩
      go_wp2_with fail
      go_ret2
      rw [HS2.out]
      exact ⟨⟨_, rfl, (intsAt_of_owns HR.out).later hB4, Fresh.owned HR.out⟩, HM.out.and hB4⟩
end Go.Proofs.YtmcmhmcihbhmhaaDoor
