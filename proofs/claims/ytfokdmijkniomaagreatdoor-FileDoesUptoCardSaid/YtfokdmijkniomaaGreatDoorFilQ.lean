/-
  A tree: rename; Do.
-/
import Derived.Test.YtfokdmijkniomaaGreatDoorFilO
import Derived.Test.YtfokdmijkniomaaGreatDoorC3
namespace Go.Proofs.YtfokdmijkniomaaGreatDoor
open Go.RowKit Go Go.Maps

section
variable {w w' w2 : World} {B c : Nat} {F : Nat → Prop} {T : List Nod}
set_option maxRecDepth 100000 in
set_option maxHeartbeats 4000000 in
theorem rename_any (h : TreeIs B F c T w) (hGd : Good T) {s u : ByteArray} (hs : s.size ≤ 281474976710656) (hu : u.size ≤ 281474976710656) {l l2 : List ByteArray} (hp : IsPath s l) (hq : IsPath u l2) :
    Calls Tryz.prog 26 #[.pointer (some ⟨c, 0, none⟩), .string s, .string u] w fun e w' => e = .returned (.int .i64 (renameV T l l2).2) ∧ LeftT B F c (renameV T l l2).1 w w' := by
  have HI := Lib.hid h
  have hrt := root_path hp
  have hG := hGd.formed
  obtain ⟨m, P, G, D, h, hF, hB⟩ := h
  unfold renameV
  by_cases hl : l = []
  · rw [decide_eq_true hl] at hrt
    rw [if_pos hl]
    clear h hG hGd hF hB hp hq hl
    go_enter Tryz.func26, Tryz.ntmps26
    go_wp2
    go_ret
    exact ⟨rfl, LeftT.same HI.out (Below.refl _ _)⟩
  rw [decide_eq_false hl] at hrt
  rw [if_neg hl]
  have C := find_any h hG hs
  rw [findR_is hG hp] at C
  have HH := Lib.hid h
  have HF := Lib.hid hF
  have HB := Lib.hid hB
  have HG := Lib.hid hG
  have HGD := Lib.hid hGd
  cases hf : findE T l with
  | error e =>
    have he := find_err hf
    have he0 : (e != 0) = true := by simp; omega
    rw [hf] at C
    simp only at C ⊢
    unfold walkRes at C
    simp only at C
    clear h hG hGd hF hB hf he hp hq hl
    go_enter Tryz.func26, Tryz.ntmps26
    go_wp2_with fail
    refine C.mono ?_
    rintro e w1 ⟨rfl, hB1⟩
    go_wp2
    go_ret
    exact ⟨rfl, LeftT.same HI.out hB1⟩
  | ok x =>
    obtain ⟨hw, hx⟩ := findE_ok hf
    rw [hf] at C
    simp only at C ⊢
    unfold walkRes at C
    simp only at C
    have CP := fun w => prefix_any u (s ++ ⟨#[47]⟩) w
    rw [begins_under hp hq hl] at CP
    have hsz1 : ¬ 9223372036854775807 < s.size + 1 := by omega
    by_cases hun : under l l2
    · rw [decide_eq_true hun] at CP
      rw [if_pos hun]
      clear h hG hGd hF hB hf hp hq hl hw hx hun
      go_enter Tryz.func26, Tryz.ntmps26
      go_wp2_with fail
      refine C.mono ?_
      rintro e w1 ⟨rfl, hB1⟩
      have HB1 := Lib.hid hB1
      clear hB1 C
      go_wp2_with fail
      refine (CP _).mono ?_
      rintro e w2 ⟨rfl, hB2⟩
      go_wp2
      go_ret
      exact ⟨rfl, LeftT.same HI.out (HB1.out.trans (hB2.mono HB1.out.size))⟩
    · rw [decide_eq_false hun] at CP
      rw [if_neg hun]
      have C2 := fun w1 (h1 : TreeAt c m P G T D w1) => place_any h1 HG.out hu hq
      cases hpl : placeE T l2 with
      | error e =>
        have he := place_err hpl
        have he0 : (e != 0) = true := by simp; omega
        rw [hpl] at C2
        unfold placeRes at C2
        simp only at C2 ⊢
        have HC2 := Lib.hid C2
        clear h hG hGd hF hB hf he hp hq hl hw hx hun hpl C2
        go_enter Tryz.func26, Tryz.ntmps26
        go_wp2_with fail
        refine C.mono ?_
        rintro e w1 ⟨rfl, hB1⟩
        have HB1 := Lib.hid hB1
        clear hB1 C
        go_wp2_with fail
        refine (CP _).mono ?_
        rintro e w2 ⟨rfl, hB2⟩
        have HB2 := Lib.hid (HB1.out.trans (hB2.mono HB1.out.size))
        have C3 := HC2.out w2 (HH.out.later HB2.out)
        clear hB2
        go_wp2_with fail
        refine C3.mono ?_
        rintro e w3 ⟨rfl, hB3⟩
        go_wp2
        go_ret
        exact ⟨rfl, LeftT.same HI.out (HB2.out.trans (hB3.mono HB2.out.size))⟩
      | ok q =>
        obtain ⟨p, t⟩ := q
        rw [hpl] at C2
        unfold placeRes at C2
        simp only at C2 ⊢
        have HC2 := Lib.hid C2
        obtain ⟨el, hpw, y, hy, hd, hlo, hl60⟩ := placeE_ok hpl
        have hf8 := hGd.fits8 hw
        have HCB := Lib.hid (fun w1 (h1 : TreeAt c m P G T D w1) => below_any HG.out 8 hx hw hf8 (by omega) w1 h1)
        have HCD := Lib.hid (fun w1 => depth_any hu hq w1)
        have hdb := deep_le HG.out.riseAll hf8
        have hlb : l2.length ≤ 8 := hq.2.1
        have hw64 : RowKit.wrap64 (((l2.length : Nat) : Int) + ((deepF T 8 x.num : Nat) : Int)) = ((l2.length + deepF T 8 x.num : Nat) : Int) := by simp [RowKit.wrap64]; omega
        by_cases hdp : 8 < l2.length + deepF T 8 x.num
        · rw [if_pos hdp]
          have hdz : (8 : Int) < ((l2.length + deepF T 8 x.num : Nat) : Int) := by omega
          generalize deepF T 8 x.num = df at *
          generalize hdn : (dirsN T 8 x.num).length = dn at HCB
          clear h hG hGd hF hB hf hp hq hl hw hx hun hpl C2 el hpw hy hd hlo hl60 hf8 hdb hlb hdp hdn
          go_enter Tryz.func26, Tryz.ntmps26
          go_wp2_with fail
          refine C.mono ?_
          rintro e w1 ⟨rfl, hB1⟩
          have HB1 := Lib.hid hB1
          clear hB1 C
          go_wp2_with fail
          refine (CP _).mono ?_
          rintro e w2 ⟨rfl, hB2⟩
          have HB2 := Lib.hid (HB1.out.trans (hB2.mono HB1.out.size))
          have C3 := HC2.out w2 (HH.out.later HB2.out)
          clear hB2 CP
          go_wp2_with fail
          refine C3.mono ?_
          rintro e w3 ⟨rfl, hB3⟩
          have HB3 := Lib.hid (HB2.out.trans (hB3.mono HB2.out.size))
          have C4 := HCB.out w3 (HH.out.later HB3.out)
          clear hB3 C3
          go_wp2_with fail
          refine C4.mono ?_
          rintro e w4 ⟨rfl, hB4⟩
          have HB4 := Lib.hid (HB3.out.trans (hB4.mono HB3.out.size))
          have C5 := HCD.out w4
          clear hB4 C4
          go_wp2_with fail
          refine C5.mono ?_
          rintro e w5 ⟨rfl, hB5⟩
          go_wp2
          go_ret
          exact ⟨rfl, LeftT.same HI.out (HB4.out.trans (hB5.mono HB4.out.size))⟩
        · rw [if_neg hdp]
          have hdz : ¬ (8 : Int) < ((l2.length + deepF T 8 x.num : Nat) : Int) := by omega
          have ht := (hq.snoc_lt el).2
          have hsz : t.size ≤ maxLen := by have := ht.2.1; unfold maxLen; omega
          obtain ⟨e1, e2, e3⟩ := up_ok hl hw
          obtain ⟨n1, _⟩ := HG.out.step_ne e3
          obtain ⟨xd, hxd, dd, ld⟩ := step_ok.1 e3
          have hrd := HG.out.riseE (at_mem hxd).1
          -- the place, behind the name that goes
          obtain ⟨y1, hy1, hd1, hlo1, hl1, hr1⟩ : ∃ y1, nodeAt (nameDel T (upOf T l) (lastOf l)) p = some y1 ∧ y1.dir = true ∧ lookE y1.names t = none ∧ y1.names.length ≤ 60 ∧ RiseE y1.names := by
            rw [at_nameDel hxd]
            by_cases e : upOf T l = p
            · rw [e] at hxd
              rw [hxd] at hy; cases hy
              refine ⟨_, if_pos e, hd, ?_, ?_, hrd.del _⟩
              · simp only [look_del]; split
                · rfl
                · exact hlo
              · have := del_len hrd ld; simp only; omega
            · exact ⟨y, by rw [if_neg e, hy], hd, hlo, by omega, HG.out.riseE (at_mem hy).1⟩
          obtain ⟨x1, hx1, hx1n⟩ : ∃ x1, nodeAt (nameDel T (upOf T l) (lastOf l)) x.num = some x1 ∧ x1.num = x.num := by
            rw [at_nameDel hxd]
            by_cases e : upOf T l = x.num
            · exact ⟨_, if_pos e, by simp only; rw [(at_mem hxd).2, e]⟩
            · exact ⟨x, by rw [if_neg e, hx], rfl⟩
          have HCU := Lib.hid (fun w1 (h1 : TreeAt c m P G T D w1) => unname_any h1 HG.out hs hp hl hw)
          have hfo := HG.out.intOk hx
          have HFT : Hid (∀ i, FootT c m P G (nameDel T (upOf T l) (lastOf l)) i → FootT c m P G T i) := Lib.hid (fun i hi => by
            have e : nameDel T (upOf T l) (lastOf l) = putN { xd with names := delE (lastOf l) xd.names } T := by unfold nameDel; rw [hxd]
            rw [e] at hi
            exact foot_turn (y := { xd with names := delE (lastOf l) xd.names }) (by simp only; rw [(at_mem hxd).2]; exact hxd) hi)
          have HY := Lib.hid hy1
          have HD := Lib.hid hd1
          have HLO := Lib.hid hlo1
          have HL1 := Lib.hid hl1
          have HR := Lib.hid hr1
          have HX1 := Lib.hid hx1
          have HXN := Lib.hid hx1n
          have HS := Lib.hid hsz
          generalize deepF T 8 x.num = df at *
          generalize hdn : (dirsN T 8 x.num).length = dn at HCB
          generalize nameDel T (upOf T l) (lastOf l) = U at *
          have HU := Lib.hid (show namePut U p t x.num = putN { y1 with names := insE t x.num y1.names } U by unfold namePut; rw [HY.out])
          rw [HU.out]
          clear h hG hGd hF hB hf hp hq hl hw hx hun hpl C2 el hpw hy hd hlo hl60 hf8 hdb hlb hdp hdn ht hsz e1 e2 e3 n1 hxd dd ld hrd hy1 hd1 hlo1 hl1 hr1 hx1 hx1n
          go_enter Tryz.func26, Tryz.ntmps26
          go_wp2_with fail
          refine C.mono ?_
          rintro e w1 ⟨rfl, hB1⟩
          have HB1 := Lib.hid hB1
          clear hB1 C
          go_wp2_with fail
          refine (CP _).mono ?_
          rintro e w2 ⟨rfl, hB2⟩
          have HB2 := Lib.hid (HB1.out.trans (hB2.mono HB1.out.size))
          have C3 := HC2.out w2 (HH.out.later HB2.out)
          clear hB2 CP
          go_wp2_with fail
          refine C3.mono ?_
          rintro e w3 ⟨rfl, hB3⟩
          have HB3 := Lib.hid (HB2.out.trans (hB3.mono HB2.out.size))
          have C4 := HCB.out w3 (HH.out.later HB3.out)
          clear hB3 C3
          go_wp2_with fail
          refine C4.mono ?_
          rintro e w4 ⟨rfl, hB4⟩
          have HB4 := Lib.hid (HB3.out.trans (hB4.mono HB3.out.size))
          have C5 := HCD.out w4
          clear hB4 C4
          go_wp2_with fail
          refine C5.mono ?_
          rintro e w5 ⟨rfl, hB5⟩
          have HB5 := Lib.hid (HB4.out.trans (hB5.mono HB4.out.size))
          have C6 := HCU.out w5 (HH.out.later HB5.out)
          clear hB5 C5
          go_wp2_with fail
          refine C6.mono ?_
          rintro e w6 ⟨rfl, h6, hS6⟩
          have hN := h6.node p y1 HY.out
          have hX := (h6.node _ x1 HX1.out).obj
          have x0 := NObj.c0 hX
          rw [HXN.out] at x0
          have hnm := hN.names
          obtain ⟨g, hg⟩ : ∃ g, G p = some g := by
            rw [HD.out] at hnm
            exact hnm.isSome
          rw [hg] at hnm
          have d4 := NObj.c4 hN.obj
          rw [hg] at d4
          obtain ⟨w7, hup, hN7, ht7⟩ := NamesAt.put (w := w6.drew) hnm HR.out (by have := HL1.out; omega) HS.out (k := x.num) hfo
          have h6d : TreeAt c m P G U D w6.drew := h6.stay ((Stir.refl (fun _ => False) w6).drew) (fun _ _ f => f)
          obtain ⟨r1, r2⟩ := h6d.renames HY.out hg hN7 ht7
          have S1 : Stir (FootT c m P G T) w w6 := (Stir.of_below (F := FootT c m P G T) HB5.out).trans hS6 (fun i hi => .inl hi)
          have HL := Lib.hid (show LeftT B F c (putN { y1 with names := insE t x.num y1.names } U) w w7 from
            LeftT.of r1 HF.out HB.out (HH.out.lt (.inl rfl)) (S1.drew.trans r2 (fun i hi => .inl (HFT.out i hi))) (fun i hi => .inl (HFT.out i (foot_turn (y := { y1 with names := insE t x.num y1.names }) (by simp only; rw [(at_mem HY.out).2]; exact HY.out) hi))))
          clear h6 h6d hS6 hN hX hnm hN7 ht7 r1 r2 S1 C6
          go_wp2
          go_region
          all_goals (
            go_wp2
            go_ret
            exact ⟨rfl, HL.out⟩)
end
end Go.Proofs.YtfokdmijkniomaaGreatDoor

