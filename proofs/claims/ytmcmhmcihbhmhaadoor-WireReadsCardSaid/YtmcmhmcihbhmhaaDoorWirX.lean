/-
  The reference's reader: Nums.
-/
import Derived.Test.YtmcmhmcihbhmhaaDoorWirV
namespace Go.Proofs.YtmcmhmcihbhmhaaDoor
open Go.RowKit Go

theorem owns_base {W : World} {base base' : Nat} {e : TypeId} {v : Value} {n : Nat} {xs : List Value} (h : W.ownsRow base' e 1 v n xs) (hb : base ≤ base') : W.ownsRow base e 1 v n xs := by
  refine ⟨h.1, ?_⟩
  rcases h.2 with h1 | ⟨g, cap, cur, h1, h2, h3⟩
  · exact .inl h1
  · exact .inr ⟨g, cap, cur, h1, Nat.le_trans hb h2, h3⟩

set_option maxRecDepth 100000 in
set_option maxHeartbeats 4000000 in
theorem mnums_any (b : Nat) (s : ByteArray) (p : Nat) (e : Int) (r : Rd) (many most : Int) (hs : s.size ≤ 281474976710656) (hst : Stands s p e r) (w : World) (hb : w.heap[b]? = some (QObj s p e)) :
    Calls Tryd.prog 24 #[.pointer (some ⟨b, 0, none⟩), .int .i64 many, .int .i64 most] w fun v w' => ∃ (p' : Nat) (e' : Int) (l : Value), v = .returned (.tuple #[l, .int .i64 (numsR r many most).2.err]) ∧ IntsAt w' l (toInts (numsR r many most).1) ∧ Stands s p' e' (numsR r many most).2 ∧ Moved b (QObj s p' e') w w' := by
  have hlow := low_walk many
  have hbl := lt_of_heap hb
  have HT := Lib.hid (show numsR r many most = manyR (numR r (low many)).1 (numR r (low many)).2 most [] from rfl)
  have C := mnum_any b s p e r (low many) hs hst w hb
  have hN := numR_low r many
  have hbad := numR_zero r (low many)
  obtain ⟨i0, hi, hz0, hz1, hz2⟩ := info_parts info3
  generalize low many = m at *
  generalize numR r m = q at *
  obtain ⟨N, r1⟩ := q
  obtain ⟨f, hf⟩ : ∃ f, r1.err = f := ⟨_, rfl⟩
  have C' : Calls Tryd.prog 20 #[.pointer (some ⟨b, 0, none⟩), .int .i64 m] w fun v w' => ∃ (p' : Nat) (e' : Int), v = .returned (.tuple #[.int .i64 N, .int .i64 f]) ∧ Stands s p' e' r1 ∧ Moved b (QObj s p' e') w w' := by rw [← hf]; exact C
  have HT' := Lib.hid (show numsR r many most = manyR N r1 most [] from HT.out)
  have hN' : N ≤ 65536 := hN
  have HBad := Lib.hid (show r1.err ≠ 0 → N = 0 from hbad)
  clear hst hb C HT hN hbad
  go_enter Tryd.func24, Tryd.ntmps24
  go_wp2_with fail
  refine C'.mono ?_
  rintro v w1 ⟨p1, e1, rfl, hst1, M1⟩
  obtain rfl : e1 = f := hst1.err.symm.trans hf
  clear C'
  by_cases he : e1 = 0
  · subst he
    have HM1 := Lib.hid M1
    have HS1 := Lib.hid hst1
    have hsz1 := M1.size
    have hrow0 : (w1.alloc (.cells #[] 3)).ownsRow w1.heap.size 3 1 (.slice (some ⟨w1.heap.size, 0, none⟩) 0 0) 0 [] := World.ownsRow_made w1 #[] 0 (Nat.le_refl _) (by unfold maxLen; omega) (by simp)
    have HR0 := Lib.hid (owns_base hrow0 hsz1)
    have HM0 := Lib.hid (M1.and ((Below.refl _ w1).alloc (Nat.le_refl _) (.cells #[] 3)))
    clear M1 hst1 hf hrow0 HM1
    go_wp2_with fail
    go_loopw [10, 11] (fun v i wr => ∃ (k : Nat) (acc : List Nat) (rk : Rd) (pk : Nat), k ≤ N ∧ i = .int .i64 k ∧ acc.length = k ∧ numsR r many most = manyR (N - k) rk most acc ∧ Stands s pk 0 rk ∧ wr.ownsRow w.heap.size 3 1 v acc.length (ints acc) ∧ Moved b (QObj s pk 0) w wr) (fun _ i _ => N - (intOf i).toNat)
    case atStart => exact ⟨0, [], r1, p1, Nat.zero_le _, rfl, rfl, HT'.out, HS1.out, HR0.out, HM0.out⟩
    case round =>
      clear HR0 HM0 HS1 HT' hlow hsz1
      obtain ⟨k, acc, rk, pk, hk, rfl, hacc, heq, hst, hrow, hM⟩ := hrel
      have HE := Lib.hid heq
      have HM := Lib.hid hM
      have HR := Lib.hid hrow
      have HS := Lib.hid hst
      clear heq hM hrow hst
      by_cases hlt : k < N
      · have hk1 : (k : Int) < (N : Int) := by omega
        have C := mnum_any b s pk 0 rk most hs HS.out wr HM.out.here
        have HX := Lib.hid (show manyR (N - k) rk most acc = if (numR rk most).2.err = 0 then manyR (N - (k + 1)) (numR rk most).2 most (acc ++ [(numR rk most).1]) else ([], (numR rk most).2) by
          rw [show N - k = (N - (k + 1)) + 1 by omega, manyR])
        generalize numR rk most = q at *
        obtain ⟨x, rq⟩ := q
        obtain ⟨f, hf⟩ : ∃ f, rq.err = f := ⟨_, rfl⟩
        have C' : Calls Tryd.prog 20 #[.pointer (some ⟨b, 0, none⟩), .int .i64 most] wr fun v w' => ∃ (p' : Nat) (e' : Int), v = .returned (.tuple #[.int .i64 x, .int .i64 f]) ∧ Stands s p' e' rq ∧ Moved b (QObj s p' e') wr w' := by rw [← hf]; exact C
        clear C HS
        go_wp2_with fail
        refine C'.mono ?_
        rintro v w2 ⟨p2, e2, rfl, hst2, M2⟩
        obtain rfl : e2 = f := hst2.err.symm.trans hf
        have hrow2 := owns_moved HR.out M2 hbl
        have hM3 := HM.out.trans M2
        have hsz := hM3.size
        have HM3 := Lib.hid hM3
        have HS2 := Lib.hid hst2
        rw [hacc] at hrow2
        clear M2 hM3 HR C' HM hst2
        by_cases herr : e2 = 0
        · subst herr
          have HY := Lib.hid (show numsR r many most = manyR (N - (k + 1)) rq most (acc ++ [x]) by rw [HE.out, HX.out]; exact if_pos hf)
          clear HX HE hf
          go_wp2_with (at_builtin; refine wpList_append_own _ rfl _ _ 22 rfl w.heap.size 3 i0 (.int .i64 0) 1 8 Tryd.underlying22 hi hz0 hz1 hz2 rfl (by decide) _ _ _ rfl (hrow2.alloc _) ⟨w2.heap.size, 0, none⟩ 1 1 [.int .i64 x] rfl rfl (cell_one_new _ _ _) (by simp [Value.oneCell']) (by unfold maxLen; omega) (by omega) (by simp; omega) ?_; intro v' w3 hown' hgrow _; have hB3 : Below w.heap.size w2 w3 := ((Below.refl _ w2).alloc hsz _).grown hgrow (by simp; omega) (fun j ej => (hrow2.lt j ej).1); have HM4 := Lib.hid (HM3.out.andB hbl hB3); have HO := Lib.hid hown'; clear hown' hgrow hB3)
          go_roundw
          case rel => exact ⟨k + 1, acc ++ [x], rq, p2, by omega, by go_num, by simp [hacc], HY.out, HS2.out, by rw [List.length_append, hacc, ints_snoc]; exact HO.out, HM4.out⟩
          case measure => simp [intOf]; omega
        · have HY := Lib.hid (show numsR r many most = ([], rq) by rw [HE.out, HX.out]; exact if_neg (by show ¬ rq.err = 0; rw [hf]; exact herr))
          have HF := Lib.hid hf
          have hne : (e2 != 0) = true := bne_iff_ne.2 herr
          clear HX HE hf
          go_wp2_with fail
          go_ret2
          exact ⟨p2, e2, _, by rw [HY.out, HF.out]; rfl, by rw [HY.out]; exact IntsAt.empty rfl, by rw [HY.out]; exact HS2.out, HM3.out⟩
      · obtain rfl : k = N := by omega
        have HY := Lib.hid (show numsR r many most = (acc, rk) by rw [HE.out, Nat.sub_self]; rfl)
        have HF := Lib.hid HS.out.err
        clear HE
        go_wp2
        go_ret2
        exact ⟨pk, 0, _, by rw [HY.out, HF.out]; rfl, by rw [HY.out]; exact intsAt_of_owns HR.out, by rw [HY.out]; exact HS.out, HM.out⟩
  · obtain rfl : N = 0 := HBad.out (by rw [hf]; exact he)
    have HY := Lib.hid (show numsR r many most = ([], r1) from HT'.out)
    have HF := Lib.hid hf
    have HM := Lib.hid M1
    have HS := Lib.hid hst1
    have hne : (e1 != 0) = true := bne_iff_ne.2 he
    clear hf M1 hst1 HT' HBad
    go_wp2_with fail
    go_ret2
    exact ⟨p1, e1, _, by rw [HY.out, HF.out]; rfl, by rw [HY.out]; exact IntsAt.empty rfl, by rw [HY.out]; exact HS.out, HM.out⟩
end Go.Proofs.YtmcmhmcihbhmhaaDoor
