/-
  The reference's disk: Sync, Arm, Crash, Revive, Read.
-/
import Derived.Test.YtmbknpipefbelaaDskZ
namespace Go.Proofs.Ytmbknpipefbelaa
open Go.RowKit Go Go.Maps SM

/-- the reference's disk, whatever its rows are -/
def RefAny (r base : Nat) (s : DS) (w : World) : Prop := ∃ zs v0 v1 v2 kp, RefAt r base s zs v0 v1 v2 kp w
section
variable {r base : Nat} {s : DS} {zs : List Int} {v0 v1 v2 : Value} {kp : ByteArray} {w w' : World}
theorem RefAny.below (h : RefAny r base s w) (hB : Below w.heap.size w w') : RefAny r base s w' := by
  obtain ⟨zs, v0, v1, v2, kp, h⟩ := h
  exact ⟨zs, v0, v1, v2, kp, h.below hB⟩
theorem RefAny.disk {b g m : Nat} {t : DS} (h : RefAny r base s w) (hd : DiskAt b g m t w) (k : Stir (Foot b g m) w w') : RefAny r base s w' := by
  obtain ⟨zs, v0, v1, v2, kp, h⟩ := h
  exact ⟨zs, v0, v1, v2, kp, h.disk hd k⟩

set_option maxRecDepth 100000 in
set_option maxHeartbeats 2000000 in
theorem rsync_at (h : RefAt r base s zs v0 v1 v2 kp w) (hk : s.Ok) (hm : s.made < 1099511627776) :
    Calls Try.prog 70 #[.pointer (some ⟨r, 0, none⟩)] w fun e w' => e = .returned (.int .i64 s.syncE) ∧ (∃ v1' kp', RefAt r base s.sync zs v0 v1' v2 kp' w') ∧ Stir (RF r v0) w w' := by
  have c6 := RO.c6 h.obj
  have H0 := Lib.hid h
  have hfew := hk.few
  have HK := Lib.hid hk
  unfold DS.syncE DS.sync
  cases hd : s.dead with
  | true =>
    rw [hd] at c6
    simp only [if_true]
    clear h hd hk
    go_enter Try.func70, Try.ntmps70
    go_wp2
    go_ret
    exact ⟨rfl, ⟨_, _, H0.out⟩, Stir.refl _ _⟩
  | false =>
    rw [hd] at c6
    have C1 := rstep_at h hk.arm hm
    simp only [Bool.false_eq_true, if_false]
    by_cases ha : s.armed = 1
    · rw [show (s.armed == 1) = true from beq_iff_eq.2 ha] at C1
      simp only [ha, if_true]
      have hkp := h.keep (by omega)
      subst hkp
      clear h hd hk
      go_enter Try.func70, Try.ntmps70
      go_wp2_with fail
      refine C1.mono ?_
      rintro e w1 ⟨rfl, h1, s1⟩
      have c5 : w1.cell? ⟨r, 5, none⟩ = some (.string s.keep) := by have := RO.c5 h1.obj; exact this
      have C2 := rgoes_at h1 HK.out.tick (by show s.loose.length ≤ _; omega) (keep := s.keep) HK.out.keep
      have S1 := Lib.hid s1
      clear h1 s1 C1
      go_wp2_with fail
      refine C2.mono ?_
      rintro e w2 ⟨rfl, ⟨v1', kp', h2⟩, s2⟩
      have S2 := Lib.hid (S1.out.trans s2 (fun i hi => .inl hi))
      have H2 := Lib.hid h2
      clear h2 s2
      go_wp2
      go_ret
      exact ⟨rfl, ⟨_, _, H2.out⟩, S2.out⟩
    · rw [show (s.armed == 1) = false from beq_eq_false_iff_ne.2 ha] at C1
      simp only [ha, if_false]
      obtain ⟨a1, k1, rfl⟩ := row_shape h.lo
      obtain ⟨q, c, rfl, _, _⟩ := h.v0_is hk.pos
      clear h hd hk ha
      go_enter Try.func70, Try.ntmps70
      go_wp2_with fail
      refine C1.mono ?_
      rintro e w1 ⟨rfl, h1, s1⟩
      have H1 := Lib.hid h1
      have S1 := Lib.hid s1
      have HT := Lib.hid HK.out.tick
      have hTl : s.tick.loose = s.loose := rfl
      have hTs : s.tick.stay = s.stay := rfl
      clear h1 s1 C1 c6 H0
      go_wp2_with fail
      go_loopw [3] (fun i wr => ∃ k : Nat, k ≤ s.loose.length ∧ i = .int .i64 k ∧ RefAt r base (s.tick.upTo allP k) zs (.slice (some ⟨q, 0, none⟩) s.stay.length c) (.slice a1 s.loose.length k1) v2 kp wr ∧ Stir (RF r (.slice (some ⟨q, 0, none⟩) s.stay.length c)) w wr) (fun i _ => s.loose.length - (intOf i).toNat)
      case atStart => exact ⟨0, Nat.zero_le _, rfl, by rw [upTo_zero]; exact H1.out, S1.out⟩
      case round =>
        obtain ⟨k, hkl, rfl, hr, hs⟩ := hrel
        have c1 := RO.c1 hr.obj
        have HR := Lib.hid hr
        have HS := Lib.hid hs
        clear hr hs H1 S1
        by_cases hlt : k < s.loose.length
        · have hki : (k : Int) < (s.loose.length : Int) := by omega
          obtain ⟨q1, c1', e1, hN, hS⟩ := HR.out.v1_cells (i := k) hlt
          simp only [Value.slice.injEq] at e1
          obtain ⟨rfl, -, hc1'⟩ := e1
          subst hc1'
          have hcN : wr.cell? ⟨q1, k * 2, none⟩ = some (.int .i64 s.loose[k].1) := hN
          have hcS : wr.cell? ⟨q1, k * 2 + 1, none⟩ = some (.string s.loose[k].2) := hS
          obtain ⟨k1', k2', k3'⟩ := HK.out.key _ (List.getElem_mem hlt)
          have hput := upTo_put HT.out allP (k := k) hlt rfl
          have hput : (s.tick.upTo allP (k + 1)).stay = (s.tick.upTo allP k).stay.set s.loose[k].1.toNat s.loose[k].2 := hput
          obtain ⟨j, hj⟩ := Int.eq_ofNat_of_zero_le k1'
          rw [hj] at hcN k2'
          rw [hj, Int.toNat_natCast] at hput
          have hjn : j < s.stay.length := by omega
          have c0 := RO.c0 HR.out.obj
          have hlen : (s.tick.upTo allP k).stay.length = s.stay.length := upTo_len s.tick allP k
          have hst := HR.out.st
          rw [hlen] at hst
          have cQ : wr.cell? ⟨q, j, none⟩ = some (.string ((s.tick.upTo allP k).stay.getD j none0)) := by
            rw [hst.cellAt j (by omega)]
            simp [strVals, hlen, hjn]
          have fQ : wr.frozen? ⟨q, j, none⟩ = false := hst.frozenAt j
          have hX : RefAt r base (s.tick.upTo allP (k + 1)) zs (.slice (some ⟨q, 0, none⟩) s.stay.length c) (.slice (some ⟨q1, 0, none⟩) s.loose.length k1) v2 kp (wr.setCell ⟨q, j, none⟩ (.string s.loose[k].2)) := by
            have h0 := HR.out
            rw [← hlen] at h0 ⊢
            exact h0.laid hput rfl rfl rfl rfl rfl rfl
          have hS2 : Stir (RF r (.slice (some ⟨q, 0, none⟩) s.stay.length c)) w (wr.setCell ⟨q, j, none⟩ (.string s.loose[k].2)) := HS.out.set (.inl (.inr rfl)) _
          have HX := Lib.hid hX
          have HS2 := Lib.hid hS2
          generalize s.loose[k].2 = x at hcS HX HS2
          have hji : (j : Int) < (s.stay.length : Int) := by omega
          clear hN hS k1' k2' k3' hput hj hX hS2 hlen hst hTl hTs
          go_wp2_with fail
          go_region
          all_goals (
            have HXd := Lib.hid (HX.out.below (Below.refl _ _).drew)
            have HSd := Lib.hid HS2.out.drew
            go_wp2
            go_roundw
            case rel => exact ⟨k + 1, by omega, by go_num, HXd.out, HSd.out⟩
            case measure => simp [intOf]; omega)
        · obtain rfl : k = s.loose.length := by omega
          have hki : ¬ ((s.loose.length : Nat) : Int) < (s.loose.length : Int) := by omega
          have ho := HR.out.obj
          have f1 := RO.fr ho 1
          have X : RefAt r base s.tick.settled zs (.slice (some ⟨q, 0, none⟩) s.stay.length c) (.slice none 0 0) v2 kp (wr.setCell ⟨r, 1, none⟩ (.slice none 0 0)) := by
            refine ⟨?_, ?_, World.ownsRow_nil _ _ _ _, owns_other (i := 1) HR.out.ba ho (by decide) _, HR.out.bads, HR.out.few, HR.out.keep, HR.out.kple, HR.out.low⟩
            · rw [heap_set ho]
              simp [RO, DS.settled, DS.upTo, DS.tick]
            · have e1 : s.tick.settled.stay = (s.tick.upTo allP s.loose.length).stay := (upTo_all s.tick allP).symm
              rw [e1]
              exact owns_other (i := 1) HR.out.st ho (by decide) _
          have HX := Lib.hid X
          have HSX := Lib.hid (HS.out.set (b := r) (i := 1) (.inl (.inl rfl)) (.slice none 0 0))
          clear X ho hTl hTs
          go_wp2
          go_ret
          exact ⟨rfl, ⟨_, _, HX.out⟩, HSX.out⟩

set_option maxRecDepth 100000 in
set_option maxHeartbeats 2000000 in
theorem rread_at (h : RefAt r base s zs v0 v1 v2 kp w) (hk : s.Ok) (hm : s.made < 1099511627776) (n : Int) (hn : I64 n) :
    Calls Try.prog 45 #[.pointer (some ⟨r, 0, none⟩), .int .i64 n] w fun e w' => e = .returned (.tuple #[.string (s.readS n), .int .i64 (s.readE n)]) ∧ w = w' := by
  have C1 := rmay_at h hk n hn
  have C2 := risBad_at h n
  have hmay : s.may n = 0 → 0 ≤ n ∧ n < s.stay.length := fun e => (DS.may_ok e).2
  have hfew := hk.few
  unfold DS.readS DS.readE
  by_cases hm0 : s.may n = 0
  · rw [hm0] at C1
    obtain ⟨h0, h1⟩ := hmay hm0
    cases hb : s.bad n with
    | true =>
      rw [hb] at C2
      simp only [hm0, ne_eq, not_true, if_false, if_true]
      clear h hm0 hmay
      go_enter Try.func45, Try.ntmps45
      go_wp2_with fail
      refine C1.mono ?_
      rintro e w' ⟨rfl, rfl⟩
      go_wp2_with fail
      refine C2.mono ?_
      rintro e w' ⟨rfl, rfl⟩
      go_wp2
      go_ret2
      exact ⟨rfl, rfl⟩
    | false =>
      rw [hb] at C2
      simp only [hm0, ne_eq, not_true, if_false, Bool.false_eq_true, if_true]
      obtain ⟨k, rfl⟩ := Int.eq_ofNat_of_zero_le h0
      have hkn : k < s.stay.length := by omega
      have HC := Lib.hid (fun i (hi : i < s.loose.length) => h.v1_cells hi)
      obtain ⟨a1, k1, rfl⟩ := row_shape h.lo
      obtain ⟨q, c, rfl, _, hc⟩ := h.v0_is hk.pos
      have c0 := RO.c0 h.obj
      have c1 := RO.c1 h.obj
      have hcell := hc k hkn
      have hll : s.loose.length ≤ 1099511627776 := by omega
      have HNO := Lib.hid (fun (hno : ∀ j (hj : j < s.loose.length), s.loose[j].1 ≠ (k : Int)) => show s.look (k : Int) = s.stay.getD k none0 by
        unfold DS.look
        rw [seek_none (fun q hq => by obtain ⟨j, hj, rfl⟩ := List.mem_iff_getElem.1 hq; exact hno j hj)]
        simp)
      have HYE := Lib.hid (fun (j : Nat) (hj : j < s.loose.length) (e : s.loose[j].1 = (k : Int)) => show s.look (k : Int) = s.loose[j].2 by
        unfold DS.look
        rw [seek_get (p := 0) hk.nd hj (k := (k : Int)) (x := s.loose[j].2) (by rw [← e])])
      have hkni : (k : Int) < (s.stay.length : Int) := by omega
      clear h hm0 hmay hc h0 h1 hk
      generalize s.look (k : Int) = x at *
      go_enter Try.func45, Try.ntmps45
      go_wp2_with fail
      refine C1.mono ?_
      rintro e w' ⟨rfl, rfl⟩
      go_wp2_with fail
      refine C2.mono ?_
      rintro e w' ⟨rfl, rfl⟩
      go_wp2_with fail
      go_loop [7] (fun i => ∃ j : Nat, j ≤ s.loose.length ∧ i = .int .i64 j ∧ ∀ i (_ : i < j) (hi : i < s.loose.length), s.loose[i].1 ≠ (k : Int)) (fun i => s.loose.length - (intOf i).toNat)
      case atStart => exact ⟨0, Nat.zero_le _, rfl, fun i hi _ => by omega⟩
      case round =>
        obtain ⟨j, hj, rfl, hno⟩ := hrel
        have HN := Lib.hid hno
        clear hno
        by_cases hlt : j < s.loose.length
        · obtain ⟨q1, c1', e1, hN, hS⟩ := HC.out j hlt
          simp only [Value.slice.injEq] at e1
          obtain ⟨rfl, -, hc1'⟩ := e1
          subst hc1'
          have hji : (j : Int) < (s.loose.length : Int) := by omega
          have HNX := Lib.hid (fun (hz : s.loose[j].1 ≠ (k : Int)) i (hi : i < j + 1) (hl : i < s.loose.length) => show s.loose[i].1 ≠ (k : Int) by
            by_cases e : i = j
            · subst e; exact hz
            · exact HN.out i (by omega) hl)
          have HYJ := Lib.hid (HYE.out j hlt)
          generalize s.loose[j].1 = z at hN HNX HYJ
          generalize s.loose[j].2 = y at hS HYJ
          by_cases hz : z = (k : Int)
          · have HXY := Lib.hid (HYJ.out hz)
            subst hz
            clear HYJ HNX
            go_wp2
            go_ret2
            exact ⟨by rw [HXY.out]; rfl, rfl⟩
          · have hzb : (z == (k : Int)) = false := beq_eq_false_iff_ne.2 hz
            go_wp2
            go_round
            case rel => exact ⟨j + 1, by omega, by go_num, HNX.out hz⟩
            case measure => simp [intOf]; omega
        · have hji : ¬ (j : Int) < (s.loose.length : Int) := by omega
          have hx := HNO.out (fun i hi => HN.out i (by omega) hi)
          rw [← hx] at hcell
          have HX := Lib.hid hx
          clear hx
          go_wp2
          go_ret2
          exact ⟨rfl, rfl⟩
  · simp only [hm0, ne_eq, not_false_eq_true, if_true, if_false]
    have hne : (s.may n == 0) = false := beq_eq_false_iff_ne.2 hm0
    generalize s.may n = E at C1 hm0 hne ⊢
    clear h hmay C2 hm0
    go_enter Try.func45, Try.ntmps45
    go_wp2_with fail
    refine C1.mono ?_
    rintro e w' ⟨rfl, rfl⟩
    go_wp2
    go_ret2
    exact ⟨rfl, rfl⟩
end
end Go.Proofs.Ytmbknpipefbelaa
