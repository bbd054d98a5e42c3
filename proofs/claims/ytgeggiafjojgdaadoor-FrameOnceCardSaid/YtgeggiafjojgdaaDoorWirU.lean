/-
  The reference's reader: Num.
-/
import Derived.Test.YtgeggiafjojgdaaDoorWirQ
namespace Go.Proofs.YtgeggiafjojgdaaDoor
open Go.RowKit Go

theorem Moved.same {b : Nat} {o : Obj} {w v : World} (h : w.heap[b]? = some o) (k : Moved b o w v) : Below w.heap.size w v :=
  ⟨k.os, k.tape, k.output, k.size, fun i hi => by
    by_cases e : i = b
    · subst e; rw [k.here, h]
    · exact k.block i hi e⟩

set_option maxRecDepth 100000 in
set_option maxHeartbeats 4000000 in
theorem mnum_any (b : Nat) (s : ByteArray) (p : Nat) (e : Int) (r : Rd) (most : Int) (hs : s.size ≤ 281474976710656) (hst : Stands s p e r) (w : World) (hb : w.heap[b]? = some (QObj s p e)) :
    Calls Tryd.prog 19 #[.pointer (some ⟨b, 0, none⟩), .int .i64 most] w fun v w' => ∃ (p' : Nat) (e' : Int), v = .returned (.tuple #[.int .i64 (numR r most).1, .int .i64 (numR r most).2.err]) ∧ Stands s p' e' (numR r most).2 ∧ Moved b (QObj s p' e') w w' := by
  have c2 := QObj.c2 hb
  have HM := Moved.refl hb
  by_cases he : e = 0
  · subst he
    have hpl := hst.le rfl
    obtain ⟨re, rr⟩ := r
    obtain rfl : rr = 0 := hst.err
    obtain rfl : re = s.data.toList.drop p := hst.rest rfl
    clear hst
    go_enter Tryd.func19, Tryd.ntmps19
    go_wp2_with fail
    go_loopw [6, 7, 8] (fun n t i wr => ∃ k m q : Nat, p + k ≤ s.size ∧ k ≤ 9 ∧ i = .int .i64 k ∧ n = .int .i64 m ∧ t = .int .i64 q ∧ q = 128 ^ (min k 8) ∧ m < 128 ^ k ∧ scan (s.data.toList.drop p) = scanAt k m (s.data.toList.drop (p + k)) ∧ Moved b (QObj s p 0) w wr) (fun _ _ i _ => 10 - (intOf i).toNat)
    case atStart => exact ⟨0, 0, 1, by omega, by omega, rfl, rfl, rfl, rfl, by decide, rfl, HM⟩
    case round =>
      clear HM c2
      obtain ⟨k, m, q, hk, hk9, rfl, rfl, rfl, hq, hm, hsc, hM⟩ := hrel
      have HS := Lib.hid hsc
      have HMv := Lib.hid hM
      have HQ := Lib.hid hq
      have HLT := Lib.hid hm
      have c0 := QObj.c0 hM.here
      have c1 := QObj.c1 hM.here
      have fr := QObj.fr hM.here
      have hk10 : (k : Int) < 10 := by omega
      have hpk : (p : Int) + (k : Int) ≤ (s.size : Int) := by omega
      clear hsc hM hq hm
      by_cases hlt : p + k < s.size
      · have hl : p + k < s.data.toList.length := by simpa using hlt
        have HD := Lib.hid (show s.data.toList.drop (p + k) = s[p + k] :: s.data.toList.drop (p + k + 1) from List.drop_eq_getElem_cons hl)
        have hlt1 : (p : Int) + (k : Int) < (s.size : Int) := by omega
        have hp0 : (0 : Int) ≤ (p : Int) + (k : Int) := by omega
        have hpn : ((p : Int) + (k : Int)).toNat = p + k := by omega
        have HC := Lib.hid (show scanAt k m (s.data.toList.drop (p + k)) = if k = 9 ∨ k > 0 ∧ s[p + k] = 0 then .form else if s[p + k].toNat < 128 then .num (m + s[p + k].toNat * 128 ^ k) (k + 1) else scanAt (k + 1) (m + (s[p + k].toNat % 128) * 128 ^ k) (s.data.toList.drop (p + k + 1)) by rw [HD.out]; rfl)
        --BEGIN
        have hwx : RowKit.wrap64 (s[p + k].toNat : Int) = (s[p + k].toNat : Int) := by
          have := s[p + k].toNat_lt
          unfold RowKit.wrap64; omega
        by_cases h9 : k = 9
        · have HF := Lib.hid (show scan (s.data.toList.drop p) = .form by rw [HS.out, HC.out, if_pos (Or.inl h9)])
          have HR := Lib.hid (numR_form (r := ⟨s.data.toList.drop p, 0⟩) (m := most) rfl HF.out)
          have e9 : ((k : Int) == 9) = true := beq_iff_eq.2 (by omega)
          clear HC HD h9
          go_wp2_with fail
          go_quiet (fail)
          go_wp2_with fail
          go_quiet (fail)
          go_wp2_with fail
          refine (fails_any b s p 0 30 _ (HMv.out.drewN).here).mono ?_
          rintro e w3 ⟨rfl, K⟩
          go_wp2_with fail
          go_ret2
          exact ⟨p, 30, by rw [HR.out]; rfl, by rw [HR.out]; exact ⟨rfl, fun e => absurd e (by decide), fun e => absurd e (by decide)⟩, (HMv.out.drewN).trans K⟩
        · have e9 : ((k : Int) == 9) = false := beq_eq_false_iff_ne.2 (by omega)
          have hk8 : k ≤ 8 := by omega
          rcases (Classical.em (k > 0 ∧ s[p + k] = 0)) with hg | hg
          · have HF := Lib.hid (show scan (s.data.toList.drop p) = .form by rw [HS.out, HC.out, if_pos (Or.inr hg)])
            have HR := Lib.hid (numR_form (r := ⟨s.data.toList.drop p, 0⟩) (m := most) rfl HF.out)
            have k0 : (0 : Int) < (k : Int) := by omega
            have x0 : ((s[p + k].toNat : Int) == 0) = true := by rw [hg.2]; rfl
            clear HC HD hg h9
            go_wp2_with fail
            go_quiet (fail)
            go_wp2_with fail
            go_quiet (fail)
            go_wp2_with fail
            refine (fails_any b s p 0 30 _ (HMv.out.drewN).here).mono ?_
            rintro e w3 ⟨rfl, K⟩
            go_wp2_with fail
            go_ret2
            exact ⟨p, 30, by rw [HR.out]; rfl, by rw [HR.out]; exact ⟨rfl, fun e => absurd e (by decide), fun e => absurd e (by decide)⟩, (HMv.out.drewN).trans K⟩
          · have hn : ¬ (k = 9 ∨ k > 0 ∧ s[p + k] = 0) := fun h => h.elim h9 hg
            have hc2 := HC.out
            rw [if_neg hn] at hc2
            have HC2 := Lib.hid hc2
            have hxl := s[p + k].toNat_lt
            have hcut : (¬ (0 : Int) < (k : Int)) ∨ ((0 : Int) < (k : Int) ∧ (((s[p + k].toNat : Int) == 0) = false)) := by
              by_cases h0 : k = 0
              · exact Or.inl (by omega)
              · refine Or.inr ⟨by omega, ?_⟩
                have h1 : s[p + k].toNat ≠ 0 := fun e => hg ⟨by omega, by rw [← ofNat_self s[p + k], e]; rfl⟩
                exact beq_eq_false_iff_ne.2 (by omega)
            have hqk : q = 128 ^ k := by rw [HQ.out, Nat.min_eq_left hk8]
            have hp7 := pow7_le k hk8
            obtain ⟨d, hd⟩ : ∃ d, s[p + k].toNat % 128 = d := ⟨_, rfl⟩
            have hd128 : d < 128 := by rw [← hd]; exact Nat.mod_lt _ (by decide)
            obtain ⟨z, hz⟩ : ∃ z, d * q = z := ⟨_, rfl⟩
            have hzq : z ≤ 127 * q := by rw [← hz]; exact Nat.mul_le_mul_right _ (by omega)
            obtain ⟨m2, hm2⟩ : ∃ m2, m + z = m2 := ⟨_, rfl⟩
            have hd1 : (s[p + k].toNat : Int) % 128 = (d : Int) := by rw [← hd]; omega
            have hd2 : (s[p + k].toNat : Int).tmod 128 = (d : Int) := by rw [Int.tmod_eq_emod_of_nonneg (by omega)]; exact hd1
            have hmul : (d : Int) * (q : Int) = (z : Int) := by rw [← hz]; simp
            have hadd : (m : Int) + (z : Int) = (m2 : Int) := by rw [← hm2]; simp
            have hmlt := HLT.out
            have hzb : (z : Int) ≤ 9223372036854775807 := by omega
            have hmb : (m2 : Int) ≤ 9223372036854775807 := by omega
            have hwz : IntKind.i64.wrap (z : Int) = (z : Int) := wrap64 _ (by omega) (by omega)
            have hwm : IntKind.i64.wrap (m2 : Int) = (m2 : Int) := wrap64 _ (by omega) (by omega)
            have HM2 := Lib.hid (show m + s[p + k].toNat % 128 * 128 ^ k = m2 by rw [hd, ← hqk, hz, hm2])
            by_cases hx : s[p + k].toNat < 128
            · have HF := Lib.hid (show scan (s.data.toList.drop p) = .num m2 (k + 1) by rw [HS.out, HC2.out, if_pos hx, ← HM2.out, Nat.mod_eq_of_lt hx])
              have hxi : (s[p + k].toNat : Int) < 128 := by omega
              obtain ⟨u, hu⟩ : ∃ u, p + (k + 1) = u := ⟨_, rfl⟩
              have hui : (p : Int) + ((k : Int) + 1) = (u : Int) := by omega
              have hui2 : (p : Int) + (k : Int) + 1 = (u : Int) := by omega
              have HUM := Lib.hid (fun N : Nat => (HMv.out.drewN (n := N)).setAt u)
              have hdl : (s.data.toList.drop p).drop (k + 1) = s.data.toList.drop u := by rw [List.drop_drop, hu]
              have hus : u ≤ s.size := by omega
              have HDL := Lib.hid hdl
              have HUS := Lib.hid hus
              clear HC HC2 HD hx hd hz hm2 hzq hqk hp7 hmlt hn hg h9 hc2 hd128 hu hdl hus HM2
              by_cases hok : (m2 : Int) ≤ most ∧ m2 ≤ top
              · have HR := Lib.hid (numR_ok (r := ⟨s.data.toList.drop p, 0⟩) (m := most) rfl HF.out hok.1 hok.2)
                have ok1 := hok.1
                have ok2 : (m2 : Int) ≤ 4611686018427387903 := by have := hok.2; unfold top at this; omega
                clear hok
                rcases hcut with k0 | ⟨k0, x0⟩
                all_goals
                  go_wp2_with fail
                  go_quiet (fail)
                  go_wp2_with fail
                  go_quiet (fail)
                  go_wp2_with fail
                  go_ret2
                  exact ⟨u, 0, by rw [HR.out]; rfl, by rw [HR.out]; exact ⟨rfl, fun _ => HUS.out, fun _ => HDL.out⟩, HUM.out _⟩
              · have HR := Lib.hid (numR_over (r := ⟨s.data.toList.drop p, 0⟩) (m := most) rfl HF.out hok)
                have hov : (4611686018427387903 < (m2 : Int)) ∨ (¬ 4611686018427387903 < (m2 : Int) ∧ most < (m2 : Int)) := by
                  by_cases h1 : 4611686018427387903 < (m2 : Int)
                  · exact Or.inl h1
                  · refine Or.inr ⟨h1, ?_⟩
                    have : ¬ (m2 : Int) ≤ most := fun e => hok ⟨e, by unfold top; omega⟩
                    omega
                clear hok
                rcases hcut with k0 | ⟨k0, x0⟩
                all_goals
                  rcases hov with ov | ⟨ov, ov2⟩
                  all_goals
                    go_wp2_with fail
                    go_quiet (fail)
                    go_wp2_with fail
                    go_quiet (fail)
                    go_wp2_with fail
                    refine (fails_any b s u 0 31 _ (HUM.out _).here).mono ?_
                    rintro e w3 ⟨rfl, K⟩
                    go_wp2_with fail
                    go_ret2
                    exact ⟨u, 31, by rw [HR.out]; rfl, by rw [HR.out]; exact ⟨rfl, fun e => absurd e (by decide), fun e => absurd e (by decide)⟩, (HUM.out _).trans K⟩
            · have HN := Lib.hid (show scan (s.data.toList.drop p) = scanAt (k + 1) m2 (s.data.toList.drop (p + (k + 1))) by rw [HS.out, HC2.out, if_neg hx, ← HM2.out]; rfl)
              have hxi : ¬ (s[p + k].toNat : Int) < 128 := by omega
              have HLT2 := Lib.hid (show m2 < 128 ^ (k + 1) by rw [Nat.pow_succ]; omega)
              by_cases hk7 : k < 8
              · obtain ⟨q2, hq2⟩ : ∃ q2, q * 128 = q2 := ⟨_, rfl⟩
                have hq3 : (q : Int) * 128 = (q2 : Int) := by rw [← hq2]; simp
                have hp8 := pow7_le (k + 1) (by omega)
                have hq5 : q2 = 128 ^ (k + 1) := by rw [← hq2, hqk, Nat.pow_succ]
                have hwq : IntKind.i64.wrap (q2 : Int) = (q2 : Int) := wrap64 _ (by omega) (by omega)
                have hqb : (q2 : Int) ≤ 72057594037927936 := by omega
                have HQ2 := Lib.hid (show q2 = 128 ^ (min (k + 1) 8) by rw [hq5, Nat.min_eq_left (by omega)])
                have hk7i : (k : Int) < 8 := by omega
                clear HC HC2 HD hx hd hz hm2 hzq hqk hp7 hmlt hn hg h9 hc2 hd128 HM2 hq2 hp8 hq5
                rcases hcut with k0 | ⟨k0, x0⟩
                all_goals (
                  go_wp2_with fail
                  go_quiet (fail)
                  go_wp2_with fail
                  go_quiet (fail)
                  go_wp2_with fail
                  go_roundw
                  case rel => exact ⟨k + 1, m2, q2, by omega, by omega, by go_num, rfl, rfl, HQ2.out, HLT2.out, HN.out, HMv.out.drewN⟩
                  case measure => simp [intOf]; omega)
              · have HQ2 := Lib.hid (show q = 128 ^ (min (k + 1) 8) by rw [hqk, show k = 8 by omega]; rfl)
                have hk7i : ¬ (k : Int) < 8 := by omega
                clear HC HC2 HD hx hd hz hm2 hzq hqk hp7 hmlt hn hg h9 hc2 hd128 HM2
                rcases hcut with k0 | ⟨k0, x0⟩
                · exact absurd k0 (by omega)
                · skip
                  go_wp2_with fail
                  go_quiet (fail)
                  go_wp2_with fail
                  go_quiet (fail)
                  go_wp2_with fail
                  go_roundw
                  case rel => exact ⟨k + 1, m2, q, by omega, by omega, by go_num, rfl, rfl, HQ2.out, HLT2.out, HN.out, HMv.out.drewN⟩
                  case measure => simp [intOf]; omega
      · have HF := Lib.hid (show scan (s.data.toList.drop p) = .fin by rw [HS.out, List.drop_of_length_le (by simp; omega)]; rfl)
        have HR := Lib.hid (numR_fin (r := ⟨s.data.toList.drop p, 0⟩) (m := most) rfl HF.out)
        have hge : ¬ (p : Int) + (k : Int) < (s.size : Int) := by omega
        go_wp2_with fail
        go_quiet (fail)
        go_wp2_with fail
        refine (fails_any b s p 0 32 _ (HMv.out.drewN).here).mono ?_
        rintro e w3 ⟨rfl, K⟩
        go_wp2_with fail
        go_ret2
        exact ⟨p, 32, by rw [HR.out]; rfl, by rw [HR.out]; exact ⟨rfl, fun e => absurd e (by decide), fun e => absurd e (by decide)⟩, (HMv.out.drewN).trans K⟩
  · have HR := Lib.hid (numR_err (r := r) (by rw [hst.err]; exact he) most)
    have HE := Lib.hid hst.err
    have HS := Lib.hid hst
    have hne : (e != 0) = true := bne_iff_ne.2 he
    clear hst
    go_enter Tryd.func19, Tryd.ntmps19
    go_wp2_with fail
    go_quiet (fail)
    go_wp2_with fail
    go_ret2
    exact ⟨p, e, by rw [HR.out, HE.out]; rfl, by rw [HR.out]; exact HS.out, HM.drewN⟩
end Go.Proofs.YtgeggiafjojgdaaDoor

