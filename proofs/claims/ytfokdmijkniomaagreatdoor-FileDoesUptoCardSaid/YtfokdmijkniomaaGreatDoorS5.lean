/-
  FilSn / FilSo / FilFy / KitI / FilOps / FilUp / FilFw / FilCl / FilBk.
-/
import Derived.Test.YtfokdmijkniomaaGreatDoorFilSm
import Derived.Test.YtfokdmijkniomaaGreatDoorCmdU
import Derived.Test.YtfokdmijkniomaaGreatDoorS3
import Derived.Test.YtfokdmijkniomaaGreatDoorKS
import Derived.Test.YtfokdmijkniomaaGreatDoorT1
import Derived.Test.YtfokdmijkniomaaGreatDoorFilFr
import Derived.Test.YtfokdmijkniomaaGreatDoorFilLay
import Derived.OwnWalk
namespace Go.Proofs.YtfokdmijkniomaaGreatDoor
open Go.RowKit Go Go.Maps

section
variable {tb : Nat} {lv : Value} {T : List Nod} {w w' : World}
theorem told_empty {x : Nod} (h : (told x).data = ⟨#[0]⟩) (_hd : x.dir = true) (hi : IsL kE (told x).data.data.toList x.names) : x.names = [] := by
  rw [h] at hi
  have h0 : IsL kE (⟨#[0]⟩ : ByteArray).data.toList ([] : List Ent) := ⟨⟨by simp, fun i hi => by simp at hi⟩, by kernel_rfl⟩
  exact hi.uniq (readsE (a := 65535) (by omega)) h0
theorem told_none {x : Nod} (h : x.names = []) (hd : x.dir = true) : (told x).data = ⟨#[0]⟩ := by
  show toldB x = _
  unfold toldB
  rw [if_pos hd, h]
  kernel_rfl
theorem removes_cases (hG : Good T) {p : ByteArray} {l : List ByteArray} (hp : IsPath p l) (hl : l ≠ []) :
    (∃ e, e ≠ 0 ∧ getV T p = (zeroN, e) ∧ removeV T l = (T, e)) ∨ ∃ x, nodeAt T x.num = some x ∧ x ∈ T ∧ getV T p = (told x, 0) ∧ walkE T 1 l = .ok x.num ∧
      ((x.names ≠ [] ∧ x.dir = true ∧ (told x).data ≠ ⟨#[0]⟩ ∧ removeV T l = (T, 144)) ∨
        (x.names = [] ∧ (x.dir = true → (told x).data = ⟨#[0]⟩) ∧ removeV T l = (if x.links - 1 = 0 then dropN x.num (nameDel T (upOf T l) (lastOf l)) else putN { x with links := x.links - 1 } (nameDel T (upOf T l) (lastOf l)), 0))) := by
  unfold removeV
  rw [if_neg hl]
  rcases get_find hG.formed hp with ⟨e, he, hg, hf⟩ | ⟨x, hx, hm, hg, hf, hw⟩
  · exact .inl ⟨e, he, hg, by rw [hf]⟩
  · refine .inr ⟨x, hx, hm, hg, hw, ?_⟩
    rw [hf]
    simp only
    by_cases hn : x.names = []
    · refine .inr ⟨hn, fun hd => told_none hn hd, ?_⟩
      rw [if_neg (by simp [hn])]
    · have hd : x.dir = true := by
        cases hd : x.dir with
        | true => rfl
        | false => exact absurd (hG.formed.file x hm hd).1 hn
      refine .inl ⟨hn, hd, fun e => hn (told_empty e hd (hG.formed.isL hm hd)), ?_⟩
      rw [if_pos hn]
theorem foot_lt (h : RTIs tb lv T w) (hne : T ≠ []) {k : Nat} (hk : RFoot tb lv k) : k < w.heap.size := by
  rcases hk with rfl | ⟨off, n, cap, e⟩
  · exact h.lt
  · obtain ⟨b, off', cap', e2, hb, _⟩ := lt_nde h.list hne
    rw [e] at e2
    cases e2
    exact hb
theorem w64_link2 {T : List Nod} (hG : Good T) {x : Nod} (hm : x ∈ T) {rl : Int} (hl : x.links = rl) : RowKit.wrap64 (rl - 1) = rl - 1 := by
  have hb : 1 ≤ x.links ∧ x.links ≤ 3600 := by
    have hc := cnt_le_all hG.formed
    by_cases e : x.num = 1
    · obtain ⟨r, hr, _, h3⟩ := hG.formed.root
      have := hG.formed.rise.at hm
      rw [e, hr] at this
      cases this; omega
    · have := hG.formed.links x hm e
      have := hc x.num
      omega
  rw [hl] at hb
  simp [RowKit.wrap64]; omega
set_option maxRecDepth 100000 in
set_option maxHeartbeats 16000000 in
theorem rdo_any (h : RTIs tb lv T w) (hG : Good T) (c : Cmd) (hs : SmallC c) :
    Calls Tryz.prog 8 #[.pointer (some ⟨tb, 0, none⟩), cmdV c] w fun e w' => e = .returned (.int .i64 (doV T c).2) ∧ RLeft tb lv (doV T c).1 w w' := by
  obtain ⟨V, hV⟩ : ∃ V, doV T c = V := ⟨_, rfl⟩
  have HV := Lib.hid hV
  rw [hV]
  obtain ⟨VT, VE⟩ := V
  obtain ⟨ck, cp, ct, ca, cd⟩ := c
  obtain ⟨w1, hw1⟩ : ∃ w1, w.alloc (CmdObj ⟨ck, cp, ct, ca, cd⟩) = w1 := ⟨_, rfl⟩
  have hB1 : Below w.heap.size w w1 := by rw [← hw1]; exact (Below.refl _ w).alloc (Nat.le_refl _) _
  have hc1 : CmdAt ⟨ck, cp, ct, ca, cd⟩ w.heap.size w1 := by rw [← hw1]; exact .new _ _
  obtain ⟨d0, d1, d2, d3, d4⟩ := hc1.cells
  simp only at d0 d1 d2 d3 d4
  have CP := rprint_any _ hs w1
  have HSP := Lib.hid (show cp.size ≤ 281474976710656 ∧ ct.size ≤ 281474976710656 from by unfold SmallC at hs; simp only at hs; omega)
  have HH := Lib.hid h
  have HGD := Lib.hid hG
  have HX := Lib.hid (fun w2 (hB : Below w1.heap.size w1 w2) => show CmdAt ⟨ck, cp, ct, ca, cd⟩ w.heap.size w2 ∧ RTIs tb lv T w2 ∧ Below w.heap.size w w2 from ⟨hc1.later hB, (h.later hB1).later hB, hB1.trans (hB.mono hB1.size)⟩)
  unfold CmdObj at hw1
  unfold cmdV at CP ⊢
  simp only at hw1 CP ⊢
  clear h hG hs hV hB1 hc1
  go_enter Tryz.func8, Tryz.ntmps8
  go_wp2_with fail
  refine CP.mono ?_
  rintro e w2 ⟨hE, hB2⟩
  obtain ⟨hA2, hT2, hBw⟩ := HX.out w2 hB2
  obtain ⟨c0, c1, c2, c3, c4⟩ := hA2.cells
  simp only at c0 c1 c2 c3 c4
  have HA2 := Lib.hid hA2
  have HT2 := Lib.hid hT2
  have HBW := Lib.hid hBw
  clear hA2 hT2 hBw hB2 d0 d1 d2 d3 d4
  rcases hE with ⟨k, hk, hck, hm, rfl⟩ | ⟨hno, rfl⟩
  · have HV2 := Lib.hid (HV.out.symm.trans (doV_kind hk hck hm))
    generalize bs (lineK k ⟨ck, cp, ct, ca, cd⟩) = ln
    have HMK := Lib.hid hm
    simp only at hck
    clear hm
    rcases below9 hk with rfl | rfl | rfl | rfl | rfl | rfl | rfl | rfl | rfl
    · as_aux_lemma =>
      replace hck : ck = 0 := hck
      subst hck
      have hm := HMK.out
      have C := rmakes_any HT2.out HGD.out (⟨0, cp, ct, ca, cd⟩) (namesOf_path hm.1) HSP.out.1 (dir := false) rfl
      clear hm
      have e : (VT, VE) = makeV T (namesOf cp) false := HV2.out
      rw [← e] at C
      unfold cmdV at C
      simp only at C
      clear e hk CP
      go_wp2_with fail
      refine C.mono ?_
      rintro e w3 ⟨rfl, hL⟩
      go_wp2
      go_ret
      exact ⟨rfl, RLeft.start HBW.out hL⟩
    · as_aux_lemma =>
      replace hck : ck = 1 := hck
      subst hck
      have hm := HMK.out
      have C := rmakes_any HT2.out HGD.out (⟨1, cp, ct, ca, cd⟩) (namesOf_path hm.1) HSP.out.1 (dir := true) rfl
      clear hm
      have e : (VT, VE) = makeV T (namesOf cp) true := HV2.out
      rw [← e] at C
      unfold cmdV at C
      simp only at C
      clear e hk CP
      go_wp2_with fail
      refine C.mono ?_
      rintro e w3 ⟨rfl, hL⟩
      go_wp2
      go_ret
      exact ⟨rfl, RLeft.start HBW.out hL⟩
    · as_aux_lemma =>
      replace hck : ck = 2 := hck
      subst hck
      have hm := HMK.out
      have C := rwrites_any HT2.out HGD.out (⟨2, cp, ct, ca, cd⟩) (namesOf_path hm.1) HSP.out.1 (wr := true) rfl hm.2.2.1 hm.2.2.2
      clear hm
      have e : (VT, VE) = writesV T (namesOf cp) true ca cd := HV2.out
      rw [← e] at C
      unfold cmdV at C
      simp only at C
      clear e hk CP
      go_wp2_with fail
      refine C.mono ?_
      rintro e w3 ⟨rfl, hL⟩
      go_wp2
      go_ret
      exact ⟨rfl, RLeft.start HBW.out hL⟩
    · as_aux_lemma =>
      replace hck : ck = 3 := hck
      subst hck
      have hm := HMK.out
      have C := rwrites_any HT2.out HGD.out (⟨3, cp, ct, ca, cd⟩) (namesOf_path hm.1) HSP.out.1 (wr := false) rfl hm.2.2.1 (by have h : cd = ⟨#[]⟩ := hm.2.2.2; show cd.size ≤ 512; rw [h]; decide)
      clear hm
      have e : (VT, VE) = writesV T (namesOf cp) false ca cd := HV2.out
      rw [← e] at C
      unfold cmdV at C
      simp only at C
      clear e hk CP
      go_wp2_with fail
      refine C.mono ?_
      rintro e w3 ⟨rfl, hL⟩
      go_wp2
      go_ret
      exact ⟨rfl, RLeft.start HBW.out hL⟩
    · as_aux_lemma =>
      replace hck : ck = 4 := hck
      subst hck
      have hm := HMK.out
      have C := rlinks_any HT2.out HGD.out (⟨4, cp, ct, ca, cd⟩) (namesOf_path hm.1) (namesOf_path hm.2.1) HSP.out.1 HSP.out.2
      clear hm
      have e : (VT, VE) = linkV T (namesOf cp) (namesOf ct) := HV2.out
      rw [← e] at C
      unfold cmdV at C
      simp only at C
      clear e hk CP
      go_wp2_with fail
      refine C.mono ?_
      rintro e w3 ⟨rfl, hL⟩
      go_wp2
      go_ret
      exact ⟨rfl, RLeft.start HBW.out hL⟩
    · as_aux_lemma =>
      replace hck : ck = 5 := hck
      subst hck
      have hm := HMK.out
      have C := rrenames_any HT2.out HGD.out (⟨5, cp, ct, ca, cd⟩) (namesOf_path hm.1) (namesOf_path hm.2.1) HSP.out.1 HSP.out.2
      clear hm
      have e : (VT, VE) = renameV T (namesOf cp) (namesOf ct) := HV2.out
      rw [← e] at C
      unfold cmdV at C
      simp only at C
      clear e hk CP
      go_wp2_with fail
      refine C.mono ?_
      rintro e w3 ⟨rfl, hL⟩
      go_wp2
      go_ret
      exact ⟨rfl, RLeft.start HBW.out hL⟩
    · as_aux_lemma =>
      replace hck : ck = 6 := hck
      subst hck
      have hp := namesOf_path (show PathOk cp from HMK.out.1)
      have e : (VT, VE) = removeV T (namesOf cp) := HV2.out
      obtain ⟨l, hl0⟩ : ∃ l, namesOf cp = l := ⟨_, rfl⟩
      rw [hl0] at hp e
      have hrt := root_path hp
      by_cases hl : l = []
      · rw [decide_eq_true hl] at hrt
        have hv : removeV T l = (T, 144) := by unfold removeV; rw [if_pos hl]
        rw [hv] at e
        cases e
        have HFIN := Lib.hid (RLeft.same HH.out HBW.out)
        clear hp hl hl0 hv hk CP
        go_wp2
        go_ret
        exact ⟨rfl, HFIN.out⟩
      · rw [decide_eq_false hl] at hrt
        have CG := rget_any HT2.out HGD.out.formed HSP.out.1
        rcases removes_cases HGD.out hp hl with ⟨E, hE, hg, hv⟩ | ⟨x, hx, hm, hg, hw, hv⟩
        · rw [hg] at CG
          rw [hv] at e
          cases e
          have he0 : (VE != 0) = true := by simp [hE]
          unfold ndeV zeroN at CG
          simp only at CG
          clear hp hl hl0 hg hv hE hk CP
          go_wp2_with fail
          refine CG.mono ?_
          rintro e w3 ⟨rfl, hB3⟩
          obtain ⟨wA, x1, x2, x3, x4, hwA, ⟨k1, k2, k3, k4⟩, ⟨p1, p2, p3, p4⟩, ⟨r1, r2, r3, r4⟩, HN, hBB, hsz⟩ := nde_box ⟨0, false, 0, ⟨#[]⟩⟩ w3
          have HN := Lib.hid HN
          simp only at k1 k2 k3 k4
          have HFIN := Lib.hid (RLeft.same HH.out (HBW.out.trans ((hB3.trans (hBB.mono hB3.size)).mono HBW.out.size)))
          clear hB3 hBB hsz CG
          go_wp2
          go_ret
          exact ⟨rfl, HFIN.out⟩
        · obtain ⟨⟨rn, rd, rl, rb⟩, hR⟩ : ∃ R, told x = R := ⟨_, rfl⟩
          rw [hg, hR] at CG
          have hrd : x.dir = rd := congrArg Nde.dir hR
          have hrn : x.num = rn := congrArg Nde.num hR
          have hrl : x.links = rl := congrArg Nde.links hR
          unfold ndeV at CG
          simp only at CG
          rcases hv with ⟨hn, hxd, hnb, hv⟩ | ⟨hn, hnb, hv⟩
          · obtain rfl : rd = true := hrd.symm.trans hxd
            rw [hR] at hnb
            have hb0 : (rb.toList == [0]) = false := by have h := (texts_ne (b := ⟨#[0]⟩) hnb).1; rw [toList_eq (⟨#[0]⟩ : ByteArray)] at h; exact h
            have hb1 : (rb.toList != [0]) = true := by have h := (texts_ne (b := ⟨#[0]⟩) hnb).2; rw [toList_eq (⟨#[0]⟩ : ByteArray)] at h; exact h
            rw [hv] at e
            cases e
            clear hp hl hl0 hg hv hk CP hR hrd hrn hrl hn hxd hnb hx hm hw
            go_wp2_with fail
            refine CG.mono ?_
            rintro e w3 ⟨rfl, hB3⟩
            obtain ⟨wA, x1, x2, x3, x4, hwA, ⟨k1, k2, k3, k4⟩, ⟨p1, p2, p3, p4⟩, ⟨r1, r2, r3, r4⟩, HN, hBB, hsz⟩ := nde_box ⟨rn, true, rl, rb⟩ w3
            have HN := Lib.hid HN
            simp only at k1 k2 k3 k4
            have HFIN := Lib.hid (RLeft.same HH.out (HBW.out.trans ((hB3.trans (hBB.mono hB3.size)).mono HBW.out.size)))
            obtain ⟨n0, n1, n2, n3⟩ := HN.out.cells
            simp only at n0 n1 n2 n3
            clear hB3 hBB hsz CG
            go_wp2
            go_ret
            exact ⟨rfl, HFIN.out⟩
          · obtain ⟨d, hd, hdd, hdk, hwd, hraw, hall⟩ := del_parts HGD.out hl hw
            have CUP := fun (W : World) (hB : Below w.heap.size w W) => rup_any (HH.out.later hB) HGD.out.formed HSP.out.1 hp hl hwd
            have CDEL := fun (W : World) (hB : Below w.heap.size w W) => rnameDel_any (HH.out.later hB) HGD.out.formed.rawN hd hdd (lastOf l)
            obtain ⟨T1, hT1⟩ : ∃ T1, nameDel T (upOf T l) (lastOf l) = T1 := ⟨_, rfl⟩
            rw [hT1] at CDEL hraw hall hv
            have hne1 : T1 ≠ [] := fun e => by
              obtain ⟨u', hu', _⟩ := hall _ _ hx
              rw [e] at hu'; cases hu'
            have hT1l := hraw.len
            have CDR := fun (W : World) (lv1 : Value) (h1 : RTIs tb lv1 T1 W) => rdrop_any h1 (by omega) hne1 x.num
            have CPT := fun (W : World) (lv1 : Value) (h1 : RTIs tb lv1 T1 W) => rput_any h1 hraw.rise (by omega) hne1 { x with links := x.links - 1 }
            have hton : told { x with links := x.links - 1 } = ⟨rn, rd, rl - 1, rb⟩ := by
              have e3 : toldB x = rb := congrArg Nde.data hR
              unfold toldB at e3
              unfold told toldB
              simp only [hrd, hrn, hrl]
              rw [hrd] at e3
              rw [← e3]
            rw [hton] at CPT
            unfold ndeV at CPT
            simp only at CPT
            rw [hrn] at CDR
            have hwl : RowKit.wrap64 (rl - 1) = rl - 1 := w64_link2 HGD.out hm hrl
            have hv2 : removeV T l = (if rl - 1 = 0 then dropN rn T1 else putN { x with links := x.links - 1 } T1, 0) := by rw [hv, hrn, hrl]
            obtain ⟨UP, hUP⟩ : ∃ z, upOf T l = z := ⟨_, rfl⟩
            obtain ⟨LS, hLS⟩ : ∃ z, lastOf l = z := ⟨_, rfl⟩
            rw [hUP, hLS] at CUP CDEL
            rw [hv2] at e
            have HTB := Lib.hid (show tb < w.heap.size from HH.out.lt)
            have HWL := Lib.hid hwl
            have HFL := Lib.hid (fun k (hk : RFoot tb lv k) => foot_lt HH.out (fun e => by rw [e] at hm; cases hm) hk)
            have hbz : rd = false ∨ (rd = true ∧ (rb.toList == [0]) = true ∧ (rb.toList != [0]) = false) := by
              cases rd with
              | false => exact .inl rfl
              | true =>
                have := hnb hrd
                rw [hR] at this
                simp only at this
                subst this
                exact .inr ⟨rfl, by rw [toList_eq]; rfl, by rw [toList_eq]; rfl⟩
            obtain ⟨z, hz⟩ : ∃ z : Int, rl - 1 = z := ⟨_, rfl⟩
            rw [hz] at CPT e
            replace hwl : RowKit.wrap64 (rl - 1) = z := hwl.trans hz
            obtain ⟨X, hX⟩ : ∃ X, putN { x with links := x.links - 1 } T1 = X := ⟨_, rfl⟩
            rw [hX] at CPT e
            have HE := Lib.hid e
            have HK2 := Lib.hid (HA2.out)
            clear hp hl hl0 hg hv hk CP hR hrd hrn hrl hn hnb hx hm hw hd hdd hdk hwd hraw hall hT1 hne1 hT1l hton hv2 hUP hLS hz hX e HWL
            go_wp2_with fail
            refine CG.mono ?_
            rintro e w3 ⟨rfl, hB3⟩
            obtain ⟨wA, x1, x2, x3, x4, hwA, ⟨k1, k2, k3, k4⟩, ⟨p1, p2, p3, p4⟩, ⟨r1, r2, r3, r4⟩, HN, hBB, hsz⟩ := nde_box ⟨rn, rd, rl, rb⟩ w3
            have HN := Lib.hid HN
            simp only at k1 k2 k3 k4
            have hB4 := hB3.trans (hBB.mono hB3.size)
            have HB4 := Lib.hid (HBW.out.trans (hB4.mono HBW.out.size))
            have HC4 := Lib.hid (HK2.out.later hB4)
            have HW3 := Lib.hid (show w.heap.size ≤ w3.heap.size from Nat.le_trans HBW.out.size hB3.size)
            obtain ⟨n0, n1, n2, n3⟩ := HN.out.cells
            obtain ⟨f0, f1, f2, f3, f4⟩ := HC4.out.cells
            simp only at n0 n1 n2 n3 f0 f1 f2 f3 f4
            have CU := CUP x4 HB4.out
            clear hB3 hBB hsz CG CUP hB4
            rcases hbz with rfl | ⟨rfl, hb0, hb1⟩
            · go_wp2_with fail
              refine CU.mono ?_
              rintro e w5 ⟨rfl, hB5⟩
              have HN5 := Lib.hid (HN.out.later hB5)
              have HB5 := Lib.hid (HB4.out.trans (hB5.mono HB4.out.size))
              have CA := CDEL w5 HB5.out
              clear CU hB5 CDEL n0 n1 n2 n3
              go_wp2_with fail
              refine CA.mono ?_
              rintro e w6 ⟨rfl, h6⟩
              obtain ⟨lv1, hr1, hs6, hf1⟩ := h6
              have HN6 := Lib.hid (HN5.out.keep hs6 (fun e => by have := HTB.out; have := HW3.out; omega))
              have HW6 := Lib.hid (show w3.heap.size < w6.heap.size from HN6.out.lt')
              obtain ⟨n0, n1, n2, n3⟩ := HN6.out.cells
              simp only at n0 n1 n2 n3
              have g2 := HN6.out.fr 2
              obtain ⟨w7, hw7⟩ : ∃ w7, w6.setCell ⟨w3.heap.size, 2, none⟩ (.int .i64 z) = w7 := ⟨_, rfl⟩
              have m7 : NdeAt ⟨rn, false, z, rb⟩ w3.heap.size w7 := ⟨by rw [← hw7, heap_set HN6.out.obj]; rfl⟩
              have S7 : Stir (fun i => i = w3.heap.size) w6 w7 := by rw [← hw7]; exact (Stir.refl (fun i => i = w3.heap.size) w6).set (.inl rfl) _
              have HR7 := Lib.hid (hr1.stay S7 (fun k hk e => (hf1 k hk).elim (fun h => by have := HFL.out k h; have := HW3.out; omega) (fun h => by have := HN5.out.lt'; omega)))
              have HS7 := Lib.hid (show Stir (fun i => i = tb) w5 w6 from hs6)
              have HF1 := Lib.hid hf1
              have HSS := Lib.hid S7
              obtain ⟨t0, t1, t2, t3⟩ := m7.cells
              simp only at t0 t1 t2 t3
              have S57 := Lib.hid (((Stir.of_below (F := fun i => i = tb) HB5.out).trans HS7.out (fun i hi => .inl hi)).trans HSS.out (fun i hi => .inr (by rw [hi]; exact HW3.out)))
              have HFF := Lib.hid (show ∀ k, RFoot tb lv1 k → RFoot tb lv k ∨ w.heap.size ≤ k from fun k hk => (hf1 k hk).imp id (fun h => Nat.le_trans HB5.out.size h))
              clear CA hr1 hs6 hf1 m7 S7
              by_cases hz0 : z = 0
              · have e := HE.out
                rw [if_pos hz0] at e
                cases e
                have hzb : (z == 0) = true := by simp [hz0]
                have CX := CDR w7 lv1 HR7.out
                clear hz0 CDR CPT
                go_wp2_with fail
                refine CX.mono ?_
                rintro e w8 ⟨rfl, h8⟩
                have HFIN := Lib.hid (RLeft.trans HFF.out S57.out h8)
                clear CX h8
                go_wp2
                go_ret
                exact ⟨rfl, HFIN.out⟩
              · have e := HE.out
                rw [if_neg hz0] at e
                cases e
                have hzb : (z == 0) = false := by simp [hz0]
                have CX := CPT w7 lv1 HR7.out
                clear hz0 CDR CPT
                go_wp2_with fail
                refine CX.mono ?_
                rintro e w8 ⟨rfl, h8⟩
                have HFIN := Lib.hid (RLeft.trans HFF.out S57.out h8)
                clear CX h8
                go_wp2
                go_ret
                exact ⟨rfl, HFIN.out⟩
            · go_wp2_with fail
              refine CU.mono ?_
              rintro e w5 ⟨rfl, hB5⟩
              have HN5 := Lib.hid (HN.out.later hB5)
              have HB5 := Lib.hid (HB4.out.trans (hB5.mono HB4.out.size))
              have CA := CDEL w5 HB5.out
              clear CU hB5 CDEL n0 n1 n2 n3
              go_wp2_with fail
              refine CA.mono ?_
              rintro e w6 ⟨rfl, h6⟩
              obtain ⟨lv1, hr1, hs6, hf1⟩ := h6
              have HN6 := Lib.hid (HN5.out.keep hs6 (fun e => by have := HTB.out; have := HW3.out; omega))
              have HW6 := Lib.hid (show w3.heap.size < w6.heap.size from HN6.out.lt')
              obtain ⟨n0, n1, n2, n3⟩ := HN6.out.cells
              simp only at n0 n1 n2 n3
              have g2 := HN6.out.fr 2
              obtain ⟨w7, hw7⟩ : ∃ w7, w6.setCell ⟨w3.heap.size, 2, none⟩ (.int .i64 z) = w7 := ⟨_, rfl⟩
              have m7 : NdeAt ⟨rn, true, z, rb⟩ w3.heap.size w7 := ⟨by rw [← hw7, heap_set HN6.out.obj]; rfl⟩
              have S7 : Stir (fun i => i = w3.heap.size) w6 w7 := by rw [← hw7]; exact (Stir.refl (fun i => i = w3.heap.size) w6).set (.inl rfl) _
              have HR7 := Lib.hid (hr1.stay S7 (fun k hk e => (hf1 k hk).elim (fun h => by have := HFL.out k h; have := HW3.out; omega) (fun h => by have := HN5.out.lt'; omega)))
              have HS7 := Lib.hid (show Stir (fun i => i = tb) w5 w6 from hs6)
              have HF1 := Lib.hid hf1
              have HSS := Lib.hid S7
              obtain ⟨t0, t1, t2, t3⟩ := m7.cells
              simp only at t0 t1 t2 t3
              have S57 := Lib.hid (((Stir.of_below (F := fun i => i = tb) HB5.out).trans HS7.out (fun i hi => .inl hi)).trans HSS.out (fun i hi => .inr (by rw [hi]; exact HW3.out)))
              have HFF := Lib.hid (show ∀ k, RFoot tb lv1 k → RFoot tb lv k ∨ w.heap.size ≤ k from fun k hk => (hf1 k hk).imp id (fun h => Nat.le_trans HB5.out.size h))
              clear CA hr1 hs6 hf1 m7 S7
              by_cases hz0 : z = 0
              · have e := HE.out
                rw [if_pos hz0] at e
                cases e
                have hzb : (z == 0) = true := by simp [hz0]
                have CX := CDR w7 lv1 HR7.out
                clear hz0 CDR CPT
                go_wp2_with fail
                refine CX.mono ?_
                rintro e w8 ⟨rfl, h8⟩
                have HFIN := Lib.hid (RLeft.trans HFF.out S57.out h8)
                clear CX h8
                go_wp2
                go_ret
                exact ⟨rfl, HFIN.out⟩
              · have e := HE.out
                rw [if_neg hz0] at e
                cases e
                have hzb : (z == 0) = false := by simp [hz0]
                have CX := CPT w7 lv1 HR7.out
                clear hz0 CDR CPT
                go_wp2_with fail
                refine CX.mono ?_
                rintro e w8 ⟨rfl, h8⟩
                have HFIN := Lib.hid (RLeft.trans HFF.out S57.out h8)
                clear CX h8
                go_wp2
                go_ret
                exact ⟨rfl, HFIN.out⟩
    · as_aux_lemma =>
      replace hck : ck = 7 := hck
      subst hck
      have e : (VT, VE) = (T, 1) := HV2.out
      cases e
      have HFIN := Lib.hid (RLeft.same HH.out HBW.out)
      clear hk CP
      go_wp2
      go_ret
      exact ⟨rfl, HFIN.out⟩
    · as_aux_lemma =>
      replace hck : ck = 8 := hck
      subst hck
      have e : (VT, VE) = (T, 1) := HV2.out
      cases e
      have HFIN := Lib.hid (RLeft.same HH.out HBW.out)
      clear hk CP
      go_wp2
      go_ret
      exact ⟨rfl, HFIN.out⟩
  · as_aux_lemma =>
    have e : (VT, VE) = (T, 1) := HV.out.symm.trans (doV_no hno)
    cases e
    have HFIN := Lib.hid (RLeft.same HH.out HBW.out)
    clear hno CP
    go_wp2
    go_ret
    exact ⟨rfl, HFIN.out⟩
end
end Go.Proofs.YtfokdmijkniomaaGreatDoor

namespace Go.Proofs.YtfokdmijkniomaaGreatDoor
open Go.RowKit Go Go.Maps

theorem newT_told : tolds newT = [⟨1, true, 1, ⟨#[0]⟩⟩] := by
  show [told ⟨1, true, 1, ⟨#[]⟩, []⟩] = _
  rw [told_new]
  rfl
set_option maxRecDepth 100000 in
set_option maxHeartbeats 4000000 in
theorem rnew_any (w : World) : Calls Tryz.prog 5 #[] w fun e w' => ∃ tb lv, e = .returned (.pointer (some ⟨tb, 0, none⟩)) ∧ RTIs tb lv newT w' ∧ (∀ k, RFoot tb lv k → w.heap.size ≤ k) ∧ Below w.heap.size w w' := by
  obtain ⟨w1, hw1⟩ : ∃ w1, w.alloc (.cells #[.int .i64 1, .bool true, .int .i64 1, .string ⟨#[0]⟩] 38) = w1 := ⟨_, rfl⟩
  have hB1 : Below w.heap.size w w1 := by rw [← hw1]; exact (Below.refl _ w).alloc (Nat.le_refl _) _
  have o1 : w1.heap[w.heap.size]? = some (.cells #[.int .i64 1, .bool true, .int .i64 1, .string ⟨#[0]⟩] 38 (0, 0)) := by rw [← hw1]; exact heap_alloc_new w _
  have hs1 : w1.heap.size = w.heap.size + 1 := by rw [← hw1]; exact Array.size_push _
  obtain ⟨w2, hw2⟩ : ∃ w2, w1.alloc (.cells #[.slice (some ⟨w.heap.size, 0, none⟩) 1 1] 36) = w2 := ⟨_, rfl⟩
  have hB2 : Below w1.heap.size w1 w2 := by rw [← hw2]; exact (Below.refl _ w1).alloc (Nat.le_refl _) _
  have o2 : w2.heap[w1.heap.size]? = some (RTObj (.slice (some ⟨w.heap.size, 0, none⟩) 1 1)) := by rw [← hw2]; exact heap_alloc_new w1 _
  have p1 := keeps_of hB2 o1
  have HFIN := Lib.hid (show RTIs w1.heap.size (.slice (some ⟨w.heap.size, 0, none⟩) 1 1) newT w2 ∧ (∀ k, RFoot w1.heap.size (.slice (some ⟨w.heap.size, 0, none⟩) 1 1) k → w.heap.size ≤ k) ∧ Below w.heap.size w w2 from by
    refine ⟨⟨o2, ?_, fun off n cap e => by injection e with e _ _; injection e with e; injection e with e _ _; omega⟩, fun k hk => ?_, hB1.trans (hB2.mono hB1.size)⟩
    · rw [newT_told]
      refine ⟨_, 1, rfl, fun _ => ⟨w.heap.size, 0, rfl, lt_of_heap p1, fun j hj i hi => ?_⟩⟩
      have hj0 : j = 0 := by simpa using hj
      subst hj0
      have : i = 0 ∨ i = 1 ∨ i = 2 ∨ i = 3 := by omega
      rcases this with rfl | rfl | rfl | rfl <;> simp [World.cell?, p1, ndeC]
    · rcases hk with rfl | ⟨off, n, cap, e⟩
      · omega
      · cases e; exact Nat.le_refl _)
  clear hB1 o1 hs1 hB2 o2 p1
  go_enter Tryz.func5, Tryz.ntmps5
  go_wp2
  go_ret
  exact ⟨_, _, rfl, HFIN.out⟩
end Go.Proofs.YtfokdmijkniomaaGreatDoor

namespace Go.Proofs.YtfokdmijkniomaaGreatDoor
open Go.RowKit Go Go.Maps

theorem texts_stay {F : Nat → Prop} {w w' : World} {base : Nat} {v : Value} {l : List ByteArray} (h : w.ownsRow base 9 1 v l.length (strVals l)) (s : Stir F w w') (hF : ∀ k, F k → k < base) : TextsAt w' v l := by
  obtain ⟨a, cap, rfl, hc⟩ := texts_of_row h
  refine ⟨a, cap, rfl, fun hne => ?_⟩
  obtain ⟨b, off, rfl, hx⟩ := hc hne
  refine ⟨b, off, rfl, fun j hj => ?_⟩
  have hb : base ≤ b := by
    rcases h.2 with ⟨e, _⟩ | ⟨g, cap', cur, e, h2, _⟩
    · cases e
    · cases e; exact h2
  have hlt : b < w.heap.size := lt_of_cell (hx j hj)
  rw [World.cell?_of_block (w := w) (s.block b hlt (fun f => by have := hF b f; omega))]
  exact hx j hj
theorem lst_nil (w : World) : LstAt ndeC 4 w (.slice none 0 0) ([] : List Nde) := ⟨none, 0, rfl, fun h => absurd rfl h⟩
set_option maxRecDepth 100000 in
set_option maxHeartbeats 8000000 in
theorem fixed_any (w : World) (hg : GE w) : Calls Tryz.prog 18 #[] w fun e w' => e = .returned (.bool true) ∧ Below w.heap.size w w' := by
  have HG := Lib.hid hg
  have C := fnew w
  clear hg
  go_enter Tryz.func18, Tryz.ntmps18
  go_wp2_with fail
  refine C.mono ?_
  rintro e w1 ⟨c, rfl, hx1⟩
  have C1 := fdo hx1 good_new ⟨0, ⟨#[47, 97]⟩, ⟨#[]⟩, 0, ⟨#[]⟩⟩ ⟨⟨by decide, by decide⟩, ⟨by decide, by decide⟩, by decide, by decide, by decide⟩ (by decide) HG.out
  rw [fx1] at C1
  unfold cmdV at C1
  simp only at C1
  clear C hx1
  go_wp2_with fail
  refine C1.mono ?_
  rintro e w2 ⟨rfl, hx2⟩
  have C2 := fdo hx2 fxA_good ⟨4, ⟨#[47, 97]⟩, ⟨#[47, 98]⟩, 0, ⟨#[]⟩⟩ ⟨⟨by decide, by decide⟩, ⟨by decide, by decide⟩, by decide, by decide, by decide⟩ (by decide) HG.out
  rw [fx2] at C2
  unfold cmdV at C2
  simp only at C2
  clear C1 hx2
  go_wp2_with fail
  refine C2.mono ?_
  rintro e w3 ⟨rfl, hx3⟩
  have C3 := fdo hx3 fxB_good ⟨2, ⟨#[47, 98]⟩, ⟨#[]⟩, 0, ⟨#[120]⟩⟩ ⟨⟨by decide, by decide⟩, ⟨by decide, by decide⟩, by decide, by decide, by decide⟩ (by decide) HG.out
  rw [fx3] at C3
  unfold cmdV at C3
  simp only at C3
  clear C2 hx3
  go_wp2_with fail
  refine C3.mono ?_
  rintro e w4 ⟨rfl, hx4⟩
  have C4 := fread hx4 fxC_good (s := ⟨#[47, 97]⟩) (by decide) 0 9 ⟨by decide, by decide⟩ ⟨by decide, by decide⟩
  rw [fx4] at C4
  simp only at C4
  have HX4 := Lib.hid hx4
  clear C3 hx4
  go_wp2_with fail
  refine C4.mono ?_
  rintro e w5 ⟨rfl, hB5⟩
  have C5 := fdo (HX4.out.later hB5) fxC_good ⟨6, ⟨#[47, 97]⟩, ⟨#[]⟩, 0, ⟨#[]⟩⟩ ⟨⟨by decide, by decide⟩, ⟨by decide, by decide⟩, by decide, by decide, by decide⟩ (by decide) HG.out
  rw [fx5] at C5
  unfold cmdV at C5
  simp only at C5
  clear C4 hB5 HX4
  go_wp2_with fail
  refine C5.mono ?_
  rintro e w6 ⟨rfl, hx6⟩
  have C6 := fget hx6 fxD_good (s := ⟨#[47, 98]⟩) (by decide)
  rw [fx6] at C6
  unfold ndeV at C6
  simp only at C6
  have HX6 := Lib.hid hx6
  clear C5 hx6
  go_wp2_with fail
  refine C6.mono ?_
  rintro e w7 ⟨rfl, hB7⟩
  have HX7 := Lib.hid (HX6.out.later hB7)
  clear C6 hB7 HX6
  obtain ⟨w8, hw8⟩ : ∃ w8, w7.alloc (NdeObj zeroN) = w8 := ⟨_, rfl⟩
  have hB8 : Below w7.heap.size w7 w8 := by rw [← hw8]; exact (Below.refl _ w7).alloc (Nat.le_refl _) _
  have z8 : NdeAt zeroN w7.heap.size w8 := by rw [← hw8]; exact .new _ _
  obtain ⟨u1, u2, u3, u4, ⟨e1, e2, e3, e4⟩, ⟨s1, s2, s3, s4⟩, ⟨f1, f2, f3, f4⟩, ha4, hs4⟩ := nde_store ⟨2, false, 1, ⟨#[120]⟩⟩ z8
  have hB9 : Below w7.heap.size w7 u4 := ((Stir.of_below (F := fun _ => False) hB8).trans hs4 (fun i hi => .inr (by omega))).below (fun _ f => f.elim) (Nat.le_refl _)
  have HX9 := Lib.hid (HX7.out.later hB9)
  have HB79 := Lib.hid hB9
  have HN9 := Lib.hid ha4
  have C9 := flist HX9.out fxD_good (s := ⟨#[47]⟩) (by decide)
  rw [fx7] at C9
  unfold ListE at C9
  simp only at C9
  unfold zeroN NdeObj at hw8
  unfold zeroN at s1 s2 s3 s4
  simp only at hw8 s1 s2 s3 s4 e1 e2 e3 e4
  clear hB8 z8 ha4 hs4 hB9
  go_wp2_with fail
  refine C9.mono ?_
  rintro e w10 ⟨⟨v, rfl, hrow⟩, hB10⟩
  have HT10 := Lib.hid (texts_of_row hrow)
  have HX10 := Lib.hid (HX9.out.later hB10)
  have HN10 := Lib.hid (HN9.out.later hB10)
  obtain ⟨F, hT10, hFB⟩ : ∃ F, TreeIs w.heap.size F c fxD w10 ∧ ∀ k, F k → k < w7.heap.size := by
    obtain ⟨F, h1, h2⟩ := HX7.out
    exact ⟨F, (h1.later HB79.out).later hB10, fun k hk => h1.lt hk⟩
  have C10 := do_short hT10 fxD_good ⟨7, ⟨#[115]⟩, ⟨#[]⟩, 0, ⟨#[]⟩⟩ ⟨⟨by decide, by decide⟩, ⟨by decide, by decide⟩, by decide, by decide, by decide⟩ (by decide) (HG.out.below HX10.out.below)
  rw [fx8] at C10
  unfold cmdV at C10
  simp only at C10
  have HT10 := Lib.hid hT10
  have HFB := Lib.hid hFB
  have HROW := Lib.hid hrow
  have HS79 := Lib.hid (show w7.heap.size < u4.heap.size from by
    have := lt_of_heap HN9.out.obj
    exact this)
  clear C9 hB10 hrow hT10 hFB
  go_wp2_with fail
  refine C10.mono ?_
  rintro e w11 ⟨rfl, hL⟩
  obtain ⟨F', h1, h2, _⟩ := id hL
  have HX11 := Lib.hid (FxAt.left HT10.out HX10.out.below hL)
  have HN11 := Lib.hid (HN10.out.keep h2 (fun f => by have := HFB.out _ f; omega))
  have HT11 := Lib.hid (texts_stay HROW.out h2 (fun k hk => by have := HFB.out k hk; have := HS79.out; omega))
  have C11 := fget HX11.out fxD_good (s := ⟨#[98]⟩) (by decide)
  rw [fx9] at C11
  unfold ndeV zeroN at C11
  simp only at C11
  clear C10 hL h1 h2 HROW HN10 HT10 HX10 HFB HS79 HN9 HX9
  go_wp2_with fail
  refine C11.mono ?_
  rintro e w12 ⟨rfl, hB12⟩
  obtain ⟨w13, hw13⟩ : ∃ w13, w12.alloc (NdeObj zeroN) = w13 := ⟨_, rfl⟩
  have hB13 : Below w12.heap.size w12 w13 := by rw [← hw13]; exact (Below.refl _ w12).alloc (Nat.le_refl _) _
  have z13 : NdeAt zeroN w12.heap.size w13 := by rw [← hw13]; exact .new _ _
  obtain ⟨y1, y2, y3, y4, ⟨g1, g2, g3, g4⟩, ⟨r1, r2, r3, r4⟩, ⟨k1, k2, k3, k4⟩, hb4, ht4⟩ := nde_store zeroN z13
  have hB14 : Below w12.heap.size w12 y4 := ((Stir.of_below (F := fun _ => False) hB13).trans ht4 (fun i hi => .inr (by omega))).below (fun _ f => f.elim) (Nat.le_refl _)
  have HX14 := Lib.hid ((HX11.out.later hB12).later hB14)
  have HN14 := Lib.hid ((HN11.out.later hB12).later hB14)
  have HT14 := Lib.hid ((HT11.out.later hB12).later hB14)
  have C14 := fnodes HX14.out fxD_good
  unfold zeroN NdeObj at hw13
  unfold zeroN at r1 r2 r3 r4 g1 g2 g3 g4
  simp only at hw13 r1 r2 r3 r4 g1 g2 g3 g4
  clear C11 hB12 hB13 z13 hb4 ht4 hB14 HX11 HN11 HT11
  go_wp2_with fail
  refine C14.mono ?_
  rintro e w15 ⟨v2, rfl, hl15, hB15⟩
  have HX15 := Lib.hid (HX14.out.later hB15)
  have C15 := from_any (tolds fxD) (nde_in fxD_good) v2 w15 hl15 (HG.out.below HX15.out.below)
  have HN15 := Lib.hid (HN14.out.later hB15)
  have HT15 := Lib.hid (HT14.out.later hB15)
  clear C14 hl15 hB15 HX14 HN14 HT14
  go_wp2_with fail
  refine C15.mono ?_
  rintro e w16 ⟨hE, hB16⟩
  have hE2 : ∃ U cu F, Good U ∧ tolds U = tolds fxD ∧ e = .returned (.tuple #[.pointer (some ⟨cu, 0, none⟩), .int .i64 0]) ∧ TreeIs w15.heap.size F cu U w16 := by
    rcases hE with h | ⟨h, _⟩
    · exact h
    · exact absurd rfl (h fxD fxD_good)
  obtain ⟨U, cu, FU, hUG, hUT, rfl, hU⟩ := hE2
  have HX16 := Lib.hid (HX15.out.later hB16)
  have HU16 := Lib.hid (show FxAt w15 w16 cu U from ⟨FU, hU, hB16⟩)
  have HUG := Lib.hid hUG
  have HUT := Lib.hid hUT
  have HN16 := Lib.hid (HN15.out.later hB16)
  have HT16 := Lib.hid (HT15.out.later hB16)
  have C16 := from_any [] (fun r hr => (by cases hr)) _ w16 (lst_nil w16) (HG.out.below HX16.out.below)
  clear C15 hE hB16 hUG hUT hU HX15 HN15 HT15
  go_wp2_with fail
  refine C16.mono ?_
  rintro e w17 ⟨hE, hB17⟩
  have hE2 : e = .returned (.tuple #[.pointer none, .int .i64 1]) := by
    rcases hE with ⟨T, _, _, h1, h2, _⟩ | ⟨_, h⟩
    · exact absurd h2 (fx_none T h1)
    · exact h
  subst hE2
  have HX17 := Lib.hid (HX16.out.later hB17)
  have HU17 := Lib.hid (HU16.out.later hB17)
  have HN17 := Lib.hid (HN16.out.later hB17)
  have HT17 := Lib.hid (HT16.out.later hB17)
  clear C16 hE hB17 HX16 HU16 HN16 HT16
  have he := nde_eql ⟨2, false, 1, ⟨#[120]⟩⟩
  have hgd := nde_guard2 ⟨2, false, 1, ⟨#[120]⟩⟩ ⟨2, false, 1, ⟨#[120]⟩⟩
  obtain ⟨n0, n1, n2, n3⟩ := HN17.out.cells
  unfold ndeV at he hgd
  simp only at he hgd n0 n1 n2 n3
  obtain ⟨w18, hw18⟩ : ∃ w18, w17.alloc (.cells #[.string nmB] 9) = w18 := ⟨_, rfl⟩
  have hB18 : Below w17.heap.size w17 w18 := by rw [← hw18]; exact (Below.refl _ w17).alloc (Nat.le_refl _) _
  have ht18 : TextsAt w18 (.slice (some ⟨w17.heap.size, 0, none⟩) 1 1) [nmB] := ⟨_, 1, rfl, fun _ => ⟨_, 0, rfl, fun j hj => by
    have : j = 0 := by simpa using hj
    subst this
    have o : w18.heap[w17.heap.size]? = some (.cells #[.string nmB] 9 (0, 0)) := by rw [← hw18]; exact heap_alloc_new w17 _
    simp [World.cell?, o]⟩⟩
  have CS := rsame_any (HT17.out.later hB18) ht18 (by decide) (by decide)
  rw [show decide ([nmB] = [nmB]) = true by simp] at CS
  have HX18 := Lib.hid (HX17.out.later hB18)
  have HU18 := Lib.hid (HU17.out.later hB18)
  unfold nmB at hw18
  clear hB18 ht18 HX17 HU17 HN17 HT17
  go_wp2_with fail
  refine CS.mono ?_
  rintro e w19 ⟨rfl, hB19⟩
  have HX19 := Lib.hid (HX18.out.later hB19)
  have C19 := fnodes (HU18.out.later hB19) HUG.out
  clear CS hB19 HX18 HU18 he hgd n0 n1 n2 n3
  go_wp2_with fail
  refine C19.mono ?_
  rintro e w20 ⟨v3, rfl, hl20, hB20⟩
  have C20 := fnodes (HX19.out.later hB20) fxD_good
  have HL20 := Lib.hid hl20
  have HX20 := Lib.hid (HX19.out.later hB20)
  clear C19 hl20 hB20 HX19
  go_wp2_with fail
  refine C20.mono ?_
  rintro e w21 ⟨v4, rfl, hl21, hB21⟩
  have C21 := nsame_any (HL20.out.later hB21) hl21 (by rw [HUT.out]; decide) (by decide)
  have HX21 := Lib.hid (HX20.out.later hB21)
  clear C20 hl21 hB21 HL20 HX20
  go_wp2_with fail
  refine C21.mono ?_
  rintro e w22 ⟨⟨b, rfl, hb⟩, hB22⟩
  obtain rfl := hb.2 HUT.out
  have HX22 := Lib.hid (HX21.out.later hB22)
  clear C21 hb hB22 HX21
  go_wp2
  go_ret
  exact ⟨rfl, HX22.out.below⟩
end Go.Proofs.YtfokdmijkniomaaGreatDoor

namespace Go.Proofs.YtfokdmijkniomaaGreatDoor
open Go.ChangeShapes Go.WideShapes Go.ChangeAt Go.RowKit Go
theorem cells3 : Tryz.prog.cellsOf 3 = 1 := by kernel_rfl
/-- a slice of numbers, at a world -/
def IntsAt (W : World) (v : Value) (zs : List Int) : Prop :=
  ∃ a cap, v = .slice a zs.length cap ∧ (zs ≠ [] → ∃ b off, a = some ⟨b, off, none⟩ ∧ b < W.heap.size ∧ ∀ j (h : j < zs.length), W.cell? ⟨b, off + j, none⟩ = some (.int .i64 zs[j]))
theorem IntsAt.later {W W' : World} {v : Value} {zs : List Int} (h : IntsAt W v zs) (hB : Below W.heap.size W W') : IntsAt W' v zs := by
  obtain ⟨a, cap, h1, h2⟩ := h
  refine ⟨a, cap, h1, fun hne => ?_⟩
  obtain ⟨b, off, e, hb, hc⟩ := h2 hne
  exact ⟨b, off, e, Nat.lt_of_lt_of_le hb hB.size, fun j hj => (World.cell?_of_block (w := W) (hB.block b hb)).trans (hc j hj)⟩
section
variable {H : Type} {enc : TypeId × Value → H} {W : World} {base : Nat} {v : Value} {d : DataW H} {p : List MemPlace} {ts : List TypeId} {ds : List (DataW H)} {j : Nat}
end
end Go.Proofs.YtfokdmijkniomaaGreatDoor

namespace Go.Proofs.YtfokdmijkniomaaGreatDoor
open Go.ChangeShapes Go.WideShapes Go.ChangeAt Go.RowKit Go
theorem weights_mem_all {H : Type} {P : Program} {e : TypeId} {d : DataW H} {n : Nat} : ∀ {l : List (DataW H)}, d ∈ l → n ∈ d.weights P e → n ∈ DataW.weightsAll P e l
  | x :: r, h, hn => by
    simp only [DataW.weightsAll, List.mem_append]
    rcases List.mem_cons.1 h with rfl | h
    · exact .inl hn
    · exact .inr (weights_mem_all h hn)
theorem cellsOp : Tryz.prog.cellsOf 31 = 5 := by kernel_rfl
/-- a list of calls, at a world -/
def OpsAt (W : World) (v : Value) (l : List (Int × ByteArray × ByteArray × Int × ByteArray)) : Prop :=
  ∃ a cap, v = .slice a l.length cap ∧ (l ≠ [] → ∃ b off, a = some ⟨b, off, none⟩ ∧ b < W.heap.size ∧ ∀ j (h : j < l.length),
    W.cell? ⟨b, off + j * 5, none⟩ = some (.int .i64 l[j].1) ∧ W.cell? ⟨b, off + j * 5 + 1, none⟩ = some (.string l[j].2.1) ∧ W.cell? ⟨b, off + j * 5 + 2, none⟩ = some (.string l[j].2.2.1) ∧ W.cell? ⟨b, off + j * 5 + 3, none⟩ = some (.int .i64 l[j].2.2.2.1) ∧ W.cell? ⟨b, off + j * 5 + 4, none⟩ = some (.string l[j].2.2.2.2))
def OpsOk (l : List (Int × ByteArray × ByteArray × Int × ByteArray)) : Prop := l.length ≤ 9223372036854775807 ∧ ∀ q ∈ l, IntOk q.1 ∧ IntOk q.2.2.2.1 ∧ q.2.1.size ≤ 140737488351232 ∧ q.2.2.1.size ≤ 140737488351232 ∧ q.2.2.2.2.size ≤ 140737488351232
section
variable {H : Type} {enc : TypeId × Value → H} {W : World} {base : Nat} {v : Value} {d : DataW H} {p : List MemPlace}
theorem op_fields : ∃ f0 f1 f2 f3 f4 : Field, Tryz.prog.underlying 31 = some (.struct #[f0, f1, f2, f3, f4]) ∧ f0.offset = 0 ∧ f1.offset = 1 ∧ f2.offset = 2 ∧ f3.offset = 3 ∧ f4.offset = 4 ∧ f0.type = 3 ∧ f1.type = 9 ∧ f2.type = 9 ∧ f3.type = 3 ∧ f4.type = 9 :=
  ⟨_, _, _, _, _, Tryz.underlying31, rfl, rfl, rfl, rfl, rfl, rfl, rfl, rfl, rfl, rfl⟩
set_option maxRecDepth 100000 in
theorem op_read {n : Nat} {cs : List Value} {x : DataW H × List MemPlace} {sp : Nat → Bool} {hd : Bool} {bb : Nat} (h : DataW.trod enc Tryz.prog W bb sp hd n 31 cs = some x) :
    ∃ q : Int × ByteArray × ByteArray × Int × ByteArray, cs = [.int .i64 q.1, .string q.2.1, .string q.2.2.1, .int .i64 q.2.2.2.1, .string q.2.2.2.2] ∧ (IntOk q.1 ∧ IntOk q.2.2.2.1) ∧ q.2.1.data.toList.length ∈ DataW.weights Tryz.prog 31 x.1 ∧ q.2.2.1.data.toList.length ∈ DataW.weights Tryz.prog 31 x.1 ∧ q.2.2.2.2.data.toList.length ∈ DataW.weights Tryz.prog 31 x.1 := by
  obtain ⟨f0, f1, f2, f3, f4, hu, o0, o1, o2, o3, o4, t0, t1, t2, t3, t4⟩ := op_fields
  obtain ⟨xs, k, _, hx, hl, hxl, hf⟩ := DataW.trod_struct hu h
  rw [cellsOp] at hl
  match xs, hxl, cs, hl with
  | [y0, y1, y2, y3, y4], _, [v0, v1, v2, v3, v4], _ =>
    have g0 := hf 0 f0 rfl
    rw [o0, t0, cells3] at g0
    have g1 := hf 1 f1 rfl
    rw [o1, t1, cells9] at g1
    have g2 := hf 2 f2 rfl
    rw [o2, t2, cells9] at g2
    have g3 := hf 3 f3 rfl
    rw [o3, t3, cells3] at g3
    have g4 := hf 4 f4 rfl
    rw [o4, t4, cells9] at g4
    obtain ⟨n0, e0, z0, r0⟩ := DataW.trod_int Tryz.underlying3 g0
    obtain ⟨n1, e1, z1, _⟩ := DataW.trod_string Tryz.underlying9 g1
    obtain ⟨n2, e2, z2, _⟩ := DataW.trod_string Tryz.underlying9 g2
    obtain ⟨n3, e3, z3, r3⟩ := DataW.trod_int Tryz.underlying3 g3
    obtain ⟨n4, e4, z4, _⟩ := DataW.trod_string Tryz.underlying9 g4
    simp at e0 e1 e2 e3 e4
    exact ⟨(n0, n1, n2, n3, n4), by rw [e0, e1, e2, e3, e4], ⟨int_range r0, int_range r3⟩, by rw [hx]; simp only [DataW.weights, hu]; exact DataW.weights_mem_each (j := 1) (t := 9) (d := .lit (.string n1.data.toList)) (by simp [t1]) (by simp [z1]) _ (by simp [DataW.weights]), by rw [hx]; simp only [DataW.weights, hu]; exact DataW.weights_mem_each (j := 2) (t := 9) (d := .lit (.string n2.data.toList)) (by simp [t2]) (by simp [z2]) _ (by simp [DataW.weights]), by rw [hx]; simp only [DataW.weights, hu]; exact DataW.weights_mem_each (j := 4) (t := 9) (d := .lit (.string n4.data.toList)) (by simp [t4]) (by simp [z4]) _ (by simp [DataW.weights])⟩

set_option maxRecDepth 100000 in
theorem ops_open (hval : Value.okWide Tryz.prog W .any base 22 v) (h0 : DataW.Trod enc Tryz.prog W 0 (fun _ => true) true 22 v d p) (hlt : ∀ x ∈ p, x.block < W.heap.size) {ts : List TypeId} {ds : List (DataW H)} {j : Nat} (hreach : (DataW.weightsEach Tryz.prog ts ds).all (· ≤ reachBytes) = true) (hts : ts[j]? = some 22) (hds : ds[j]? = some d) :
    ∃ l : List (Int × ByteArray × ByteArray × Int × ByteArray), OpsAt W v l ∧ OpsOk l := by
  obtain ⟨a0, len, cap, rfl⟩ := okWide_slice Tryz.underlying22 hval
  by_cases hl0 : len = 0
  · subst hl0
    exact ⟨[], ⟨a0, cap, rfl, fun e => absurd rfl e⟩, by simp, by simp⟩
  · obtain ⟨fuel, hf⟩ := id h0
    rcases Deep.open_slice Tryz.underlying22 hf with ⟨hcs, hx⟩ | ⟨a, len', cap', m, n, D, Pl, hcs, hb, hl, hm, hmm, hx, hel⟩
    · simp [Value.cells] at hcs
      exact absurd hcs.2.1 hl0
    · simp [Value.cells] at hcs
      obtain ⟨rfl, rfl, rfl⟩ := hcs
      simp only [Prod.mk.injEq] at hx
      obtain ⟨rfl, rfl⟩ := hx
      simp only [if_true] at hmm
      have each : ∀ i, i < len → ∃ q : Int × ByteArray × ByteArray × Int × ByteArray, (W.cell? (a.add (i * 5)) = some (.int .i64 q.1) ∧ W.cell? (a.add (i * 5 + 1)) = some (.string q.2.1) ∧ W.cell? (a.add (i * 5 + 2)) = some (.string q.2.2.1) ∧ W.cell? (a.add (i * 5 + 3)) = some (.int .i64 q.2.2.2.1) ∧ W.cell? (a.add (i * 5 + 4)) = some (.string q.2.2.2.2)) ∧ IntOk q.1 ∧ IntOk q.2.2.2.1 ∧ q.2.1.size ≤ 140737488351232 ∧ q.2.2.1.size ≤ 140737488351232 ∧ q.2.2.2.2.size ≤ 140737488351232 := by
        intro i hi
        obtain ⟨cs', h1, h2⟩ := hel i (by omega)
        obtain ⟨q, rfl, hk, hw1, hw2, hw4⟩ := op_read h2
        rw [cellsOp] at h1
        obtain ⟨_, _, hc⟩ := World.cells?_some h1
        have e0 := hc 0 (by omega)
        have e1 := hc 1 (by omega)
        have e2 := hc 2 (by omega)
        have e3 := hc 3 (by omega)
        have e4 := hc 4 (by omega)
        rw [Deep.add_add] at e0 e1 e2 e3 e4
        have hs1 : q.2.1.size ≤ 140737488351232 := by
          have := List.all_eq_true.1 hreach _ (DataW.weights_mem_each hts hds q.2.1.data.toList.length (by
            simp only [DataW.weights, Tryz.underlying22]
            exact List.mem_cons_of_mem _ (List.mem_append.2 (Or.inl (weights_mem_all (List.mem_map.2 ⟨i, List.mem_range.2 hi, rfl⟩) hw1)))))
          exact reach_size (by simpa using this)
        have hs2 : q.2.2.1.size ≤ 140737488351232 := by
          have := List.all_eq_true.1 hreach _ (DataW.weights_mem_each hts hds q.2.2.1.data.toList.length (by
            simp only [DataW.weights, Tryz.underlying22]
            exact List.mem_cons_of_mem _ (List.mem_append.2 (Or.inl (weights_mem_all (List.mem_map.2 ⟨i, List.mem_range.2 hi, rfl⟩) hw2)))))
          exact reach_size (by simpa using this)
        have hs4 : q.2.2.2.2.size ≤ 140737488351232 := by
          have := List.all_eq_true.1 hreach _ (DataW.weights_mem_each hts hds q.2.2.2.2.data.toList.length (by
            simp only [DataW.weights, Tryz.underlying22]
            exact List.mem_cons_of_mem _ (List.mem_append.2 (Or.inl (weights_mem_all (List.mem_map.2 ⟨i, List.mem_range.2 hi, rfl⟩) hw4)))))
          exact reach_size (by simpa using this)
        exact ⟨q, ⟨by simpa using e0, by simpa using e1, by simpa using e2, by simpa using e3, by simpa using e4⟩, hk.1, hk.2, hs1, hs2, hs4⟩
      obtain ⟨q, hq⟩ := Deep.choose_lt each
      obtain ⟨b, off, spot⟩ := a
      have hspot : spot = none := by
        have := (hq 0 (by omega)).1.1
        simpa [Addr.add] using World.cell?_spot this
      subst hspot
      have hbW : b < W.heap.size := hlt (.cell b off) (List.mem_append_left _ (MemPlace.mem_row.2 ⟨0, by rw [cellsOp]; omega, by simp⟩))
      have hml : cap ≤ 9223372036854775807 := hm
      refine ⟨(List.range len).map q, ⟨_, cap, by simp, fun _ => ⟨b, off, rfl, hbW, fun j hj => ?_⟩⟩, by simp; omega, fun x hx => ?_⟩
      rotate_left
      · obtain ⟨j, hj, rfl⟩ := List.mem_map.1 hx
        exact (hq j (by simpa using hj)).2
      have hj' : j < len := by simpa using hj
      have := (hq j hj').1
      rw [Addr.add_lit, Addr.add_lit, Addr.add_lit, Addr.add_lit, Addr.add_lit] at this
      simp only [List.getElem_map, List.getElem_range]
      exact ⟨this.1, by rw [Nat.add_assoc]; exact this.2.1, by rw [Nat.add_assoc]; exact this.2.2.1, by rw [Nat.add_assoc]; exact this.2.2.2.1, by rw [Nat.add_assoc]; exact this.2.2.2.2⟩
end
theorem OpsAt.later {W W' : World} {v : Value} {l : List (Int × ByteArray × ByteArray × Int × ByteArray)} (h : OpsAt W v l) (hB : Below W.heap.size W W') : OpsAt W' v l := by
  obtain ⟨a, cap, h1, h2⟩ := h
  refine ⟨a, cap, h1, fun hne => ?_⟩
  obtain ⟨b, off, e, hb, hc⟩ := h2 hne
  have hk : ∀ i, W'.cell? ⟨b, i, none⟩ = W.cell? ⟨b, i, none⟩ := fun i => World.cell?_of_block (w := W) (hB.block b hb)
  refine ⟨b, off, e, Nat.lt_of_lt_of_le hb hB.size, fun j hj => ?_⟩
  rw [hk, hk, hk, hk, hk]
  exact hc j hj
end Go.Proofs.YtfokdmijkniomaaGreatDoor

namespace Go.Proofs.YtfokdmijkniomaaGreatDoor
open Go.ChangeShapes Go.WideShapes Go.ChangeAt Go.RowKit Go
theorem bulk_part {H : Type} {d : DataW H} {l : List (DataW H)} (h : d ∈ l) : Rows.uptoBulk d ≤ Rows.uptoBulkAll l := by
  induction l with
  | nil => cases h
  | cons x r ih =>
    simp only [Rows.uptoBulkAll]
    cases List.mem_cons.1 h with
    | inl e => subst e; omega
    | inr e => have := ih e; omega
section
variable {H : Type} {enc : TypeId × Value → H} {W : World} {base : Nat} {v : Value} {d : DataW H} {p : List MemPlace}
end
/-- a command's cells -/
def cmdC (c : Cmd) : List Value := [.int .i64 c.kind, .string c.path, .string c.dest, .int .i64 c.place, .string c.data]
def toCmd (q : Int × ByteArray × ByteArray × Int × ByteArray) : Cmd := ⟨q.1, q.2.1, q.2.2.1, q.2.2.2.1, q.2.2.2.2⟩
end Go.Proofs.YtfokdmijkniomaaGreatDoor

namespace Go.Proofs.YtfokdmijkniomaaGreatDoor
open Go.RowKit Go Go.Maps

section
variable {w0 w w1 w' : World} {c : Nat} {T : List Nod}
end
/-- two lists of one length that differ at one place at most -/
structure OneDiff (A B : List Nde) : Prop where
  len : A.length = B.length
  one : ∀ i j (hi : i < A.length) (hj : j < A.length) (hi2 : i < B.length) (hj2 : j < B.length), A[i] ≠ B[i] → A[j] ≠ B[j] → i = j
end Go.Proofs.YtfokdmijkniomaaGreatDoor

namespace Go.Proofs.YtfokdmijkniomaaGreatDoor
open Go.RowKit Go Go.Maps

def zeroX : Nod := ⟨0, false, 0, ⟨#[]⟩, []⟩
/-- a node is stored, cell by cell -/
theorem nod_store {z : Nod} (r : Nod) {q p : Option Nat} {b : Nat} {w : World} (h : w.heap[b]? = some (NObj z q)) : ∃ u1 u2 u3 u4 u5,
    (w.setCell ⟨b, 0, none⟩ (.int .i64 r.num) = u1 ∧ u1.setCell ⟨b, 1, none⟩ (.bool r.dir) = u2 ∧ u2.setCell ⟨b, 2, none⟩ (.int .i64 r.links) = u3 ∧ u3.setCell ⟨b, 3, none⟩ (.string r.data) = u4 ∧ u4.setCell ⟨b, 4, none⟩ (.map p) = u5) ∧
    (w.cell? ⟨b, 0, none⟩ = some (.int .i64 z.num) ∧ u1.cell? ⟨b, 1, none⟩ = some (.bool z.dir) ∧ u2.cell? ⟨b, 2, none⟩ = some (.int .i64 z.links) ∧ u3.cell? ⟨b, 3, none⟩ = some (.string z.data) ∧ u4.cell? ⟨b, 4, none⟩ = some (.map q)) ∧
    (w.frozen? ⟨b, 0, none⟩ = false ∧ u1.frozen? ⟨b, 1, none⟩ = false ∧ u2.frozen? ⟨b, 2, none⟩ = false ∧ u3.frozen? ⟨b, 3, none⟩ = false ∧ u4.frozen? ⟨b, 4, none⟩ = false) ∧ u5.heap[b]? = some (NObj r p) ∧ Stir (fun i => i = b) w u5 := by
  unfold NObj at h
  obtain ⟨u1, e1⟩ : ∃ u, w.setCell ⟨b, 0, none⟩ (.int .i64 r.num) = u := ⟨_, rfl⟩
  have h1 : u1.heap[b]? = some (.cells #[.int .i64 r.num, .bool z.dir, .int .i64 z.links, .string z.data, .map q] 58 (0, 0)) := by rw [← e1, heap_set h]; rfl
  obtain ⟨u2, e2⟩ : ∃ u, u1.setCell ⟨b, 1, none⟩ (.bool r.dir) = u := ⟨_, rfl⟩
  have h2 : u2.heap[b]? = some (.cells #[.int .i64 r.num, .bool r.dir, .int .i64 z.links, .string z.data, .map q] 58 (0, 0)) := by rw [← e2, heap_set h1]; rfl
  obtain ⟨u3, e3⟩ : ∃ u, u2.setCell ⟨b, 2, none⟩ (.int .i64 r.links) = u := ⟨_, rfl⟩
  have h3 : u3.heap[b]? = some (.cells #[.int .i64 r.num, .bool r.dir, .int .i64 r.links, .string z.data, .map q] 58 (0, 0)) := by rw [← e3, heap_set h2]; rfl
  obtain ⟨u4, e4⟩ : ∃ u, u3.setCell ⟨b, 3, none⟩ (.string r.data) = u := ⟨_, rfl⟩
  have h4 : u4.heap[b]? = some (.cells #[.int .i64 r.num, .bool r.dir, .int .i64 r.links, .string r.data, .map q] 58 (0, 0)) := by rw [← e4, heap_set h3]; rfl
  obtain ⟨u5, e5⟩ : ∃ u, u4.setCell ⟨b, 4, none⟩ (.map p) = u := ⟨_, rfl⟩
  have h5 : u5.heap[b]? = some (NObj r p) := by rw [← e5, heap_set h4]; rfl
  refine ⟨u1, u2, u3, u4, u5, ⟨e1, e2, e3, e4, e5⟩, ⟨?_, ?_, ?_, ?_, ?_⟩, ⟨?_, ?_, ?_, ?_, ?_⟩, h5, ?_⟩
  · simp [World.cell?, h]
  · simp [World.cell?, h1]
  · simp [World.cell?, h2]
  · simp [World.cell?, h3]
  · simp [World.cell?, h4]
  · simp [World.frozen?, h]
  · simp [World.frozen?, h1]
  · simp [World.frozen?, h2]
  · simp [World.frozen?, h3]
  · simp [World.frozen?, h4]
  · rw [← e5, ← e4, ← e3, ← e2, ← e1]
    exact (((((Stir.refl (fun i => i = b) w).set (.inl rfl) _).set (.inl rfl) _).set (.inl rfl) _).set (.inl rfl) _).set (.inl rfl) _
/-- maps.Clone of a node's names -/
theorem names_clone {d : Bool} {l : List Ent} {p : Option Nat} {w : World} (h : NamesAt w d l p) :
    Calls Tryz.prog 20 #[.map p] w fun e w' => ∃ q, e = .returned (.map q) ∧ NamesAt w' d l q ∧ (∀ g, q = some g → w.heap.size ≤ g) ∧ Below w.heap.size w w' := by
  cases p with
  | none =>
    have C : Calls Tryz.prog 20 #[.map none] w fun e w' => e = .returned (.map none) ∧ w' = w := AnyW.maps_Clone_nil Tryz.cloneM w
    refine C.mono ?_
    rintro e w' ⟨he, rfl⟩
    exact ⟨none, he, h, (fun g hg => by cases hg), Below.refl _ _⟩
  | some g =>
    obtain ⟨h1, D, h2, h3, h4⟩ := h
    have C : Calls Tryz.prog 20 #[.map (some g)] w fun e w' => e = .returned (.map (some w.heap.size)) ∧ w'.ownsMap Tryz.prog 9 intElem w.heap.size l.length D ∧ w'.ownsMap Tryz.prog 9 intElem g l.length D ∧ Below w.heap.size w w' :=
      AnyW.maps_Clone_owns Tryz.cloneM 9 intElem g l.length D w h2
    refine C.mono ?_
    rintro e w' ⟨he, k1, k2, k3⟩
    exact ⟨some w.heap.size, he, ⟨h1, D, k1, h3, h4⟩, (fun g hg => by cases hg; exact Nat.le_refl _), k3⟩
section
variable {w w' w2 : World} {c m : Nat} {P : Int → Nat} {G : Int → Option Nat} {T : List Nod} {D : DataW Unit}
/-- what stands behind a number of nodes -/
structure CloneAt (w w' : World) (m r c2 m2 : Nat) (T : List Nod) (D : DataW Unit) (left : Lit → Bool) (cnt' : Nat) : Prop where
  rng : w'.ranges Tryz.prog 3 ptrElem m r T.length D left cnt'
  tree : ∃ P G U E, TreeAt c2 m2 P G U E w' ∧ (∀ k, nodeAt U k = if left (litI k) = true then none else nodeAt T k) ∧ (∀ i, FootT c2 m2 P G U i → w.heap.size ≤ i ∧ i ≠ r)
  below : Below w.heap.size w w'
theorem len_sub {T U : List Nod} (hU : RiseN U) (h : ∀ k x, nodeAt U k = some x → nodeAt T k = some x) : U.length ≤ T.length := by
  have h1 : (U.map Nod.num).Nodup := List.pairwise_map.2 (List.Pairwise.imp (fun {a b} h e => by rw [e, ordI.irr] at h; cases h) hU)
  have := sub_len h1 (m := T.map Nod.num) fun k hk => by
    obtain ⟨x, hx, rfl⟩ := List.mem_map.1 hk
    exact List.mem_map.2 ⟨x, (at_mem (h _ _ (hU.at hx))).1, rfl⟩
  simpa using this
set_option maxRecDepth 100000 in
set_option maxHeartbeats 8000000 in
theorem tclone_any (h : TreeAt c m P G T D w) (hF : Formed T) :
    Calls Tryz.prog 6 #[.pointer (some ⟨c, 0, none⟩)] w fun r w' => ∃ d F, r = .returned (.pointer (some ⟨d, 0, none⟩)) ∧ TreeIs w.heap.size F d T w' ∧ Below w.heap.size w w' := by
  obtain ⟨w1, hw1⟩ : ∃ w1, w.alloc (.map #[] 0) = w1 := ⟨_, rfl⟩
  have hB1 : Below w.heap.size w w1 := by rw [← hw1]; exact (Below.refl _ w).alloc (Nat.le_refl _) _
  have hs1 : w1.heap.size = w.heap.size + 1 := by rw [← hw1]; exact Array.size_push _
  have m1 : w1.ownsMap Tryz.prog 3 ptrElem w.heap.size 0 (.map []) := by rw [← hw1]; exact World.ownsMap_made w _ _ _
  obtain ⟨w2, hw2⟩ : ∃ w2, w1.alloc (TObj w.heap.size) = w2 := ⟨_, rfl⟩
  have hB2 : Below w1.heap.size w1 w2 := by rw [← hw2]; exact (Below.refl _ w1).alloc (Nat.le_refl _) _
  have hs2 : w2.heap.size = w1.heap.size + 1 := by rw [← hw2]; exact Array.size_push _
  have o2 : w2.heap[w1.heap.size]? = some (TObj w.heap.size) := by rw [← hw2]; exact heap_alloc_new w1 _
  have h2 : TreeAt w1.heap.size w.heap.size (fun _ => 0) (fun _ => none) [] (.map []) w2 :=
    ⟨o2, owns_stay m1 (Stir.of_below (F := fun _ => False) hB2) (fun f => f), rfl, fun _ _ => rfl, fun k x hx => (by cases hx), fun k x hx => (by cases hx), fun i j x y g hx => (by cases hx), List.Pairwise.nil⟩
  have hB : Below w.heap.size w w2 := hB1.trans (hB2.mono hB1.size)
  have k2 := h.later hB
  have c0 := TObj.c0 k2.obj
  have hmap := k2.map
  have HB := Lib.hid hB
  have HH := Lib.hid h
  have HF := Lib.hid hF
  have HT2 := Lib.hid h2
  have HSZ := Lib.hid (show w1.heap.size = w.heap.size + 1 ∧ w2.heap.size = w.heap.size + 2 by omega)
  have hmm := @run_makeMap Tryz.prog
  unfold TObj at hw2
  clear h hF hB1 hs1 m1 hB2 hs2 o2 h2 hB k2
  go_enter Tryz.func6, Tryz.ntmps6
  go_wp2_with (at_range; refine wpList_range_own _ rfl _ 51 rfl 3 55 lawI Tryz.underlying51 _ m T.length D rfl hmap ?_; intro w0 hrg0 hg0 hs0)
  try go_frame
  have hB0 : Below w2.heap.size w2 w0 := ⟨hg0.os, hg0.tape, hg0.output, hg0.size, fun k hk => hg0.block k hk (by simp)⟩
  have HCA := Lib.hid (show CloneAt w w0 m w2.heap.size w1.heap.size w.heap.size T D (Maps.has D) (Maps.size D) from
    ⟨hrg0, ⟨_, _, [], _, HT2.out.later hB0, fun k => (by
      rw [HH.out.has]
      cases nodeAt T k with
      | none => rfl
      | some x => rfl), fun i hi => (by
      have := HSZ.out
      rcases hi with rfl | rfl | ⟨k, x, hx, _⟩
      · omega
      · omega
      · cases hx)⟩, HB.out.trans (hB0.mono HB.out.size)⟩)
  clear hrg0 hg0 hs0 hB0 hmap c0 hmm
  go_loopw [15] (fun _ wr => ∃ left cnt1, Hid (CloneAt w wr m w2.heap.size w1.heap.size w.heap.size T D left cnt1)) (fun _ wr => wr.rangeLeft m w2.heap.size)
  case atStart => exact ⟨_, _, HCA⟩
  case round =>
    clear HCA
    obtain ⟨left, cnt1, HA⟩ := hrel
    have hrg := HA.out.rng
    go_wp2_with (at_next; refine wpList_next_nodes _ rfl _ rfl m w2.heap.size T.length D P T HH.out.look _ _ rfl hrg ?_ ?_)
    · intro _ hl0
      obtain ⟨P2, G2, U, E, ht, hat, hft⟩ := HA.out.tree
      have hUT : U = T := RiseN.ext ht.rise HH.out.rise fun k => by rw [hat, hl0]; rfl
      subst hUT
      have HFin := Lib.hid (show TreeIs w.heap.size (FootT w1.heap.size w.heap.size P2 G2 U) w1.heap.size U wr from ⟨_, _, _, _, ht, fun _ => Iff.rfl, fun i hi => (hft i hi).1⟩)
      clear ht hat hft hl0 hrg
      go_wp2
      go_ret
      exact ⟨_, _, rfl, HFin.out, HA.out.below⟩
    · intro x w4 cnt2 hx hlf hrg1 hlt hg1 hsz1 hen
      have hsz := HSZ.out
      have hml := HH.out.lt (.inr (.inl rfl))
      have hB4 : Below w.heap.size w w4 := ⟨hg1.os.trans HA.out.below.os, hg1.tape.trans HA.out.below.tape, hg1.output.trans HA.out.below.output, by rw [hsz1]; exact HA.out.below.size, fun i hi => (hg1.block i (Nat.lt_of_lt_of_le hi HA.out.below.size) (by simp; omega)).trans (HA.out.below.block i hi)⟩
      have S4 : Stir (fun i => i = w2.heap.size) wr w4 := ⟨hg1.os, hg1.tape, hg1.output, Nat.le_of_eq hsz1.symm, fun i hi hn => hg1.block i hi (by simp; exact hn)⟩
      obtain ⟨P2, G2, U, E, ht, hat, hft⟩ := HA.out.tree
      have ht4 := ht.stay S4 (fun i hi e => (hft i hi).2 e)
      have h4 := HH.out.later hB4
      have o4 := h4.node _ x hx
      have a0 := NObj.c0 o4.obj
      have a1 := NObj.c1 o4.obj
      have a2 := NObj.c2 o4.obj
      have a3 := NObj.c3 o4.obj
      have a4 := NObj.c4 o4.obj
      have hrs : w2.heap.size < w4.heap.size := by rw [hsz1]; exact HA.out.rng.lt
      obtain ⟨w5, hw5⟩ : ∃ w5, w4.alloc (NObj zeroX none) = w5 := ⟨_, rfl⟩
      have hB5 : Below w4.heap.size w4 w5 := by rw [← hw5]; exact (Below.refl _ w4).alloc (Nat.le_refl _) _
      have o5 : w5.heap[w4.heap.size]? = some (NObj zeroX none) := by rw [← hw5]; exact heap_alloc_new w4 _
      obtain ⟨u1, u2, u3, u4, u5, ⟨e1, e2, e3, e4, e5⟩, ⟨s1, s2, s3, s4, s5⟩, ⟨f1, f2, f3, f4, f5⟩, ho5, hs5⟩ := nod_store (p := G x.num) x o5
      have hBu : Below w4.heap.size w4 u5 := ((Stir.of_below (F := fun _ => False) hB5).trans hs5 (fun i hi => .inr (by omega))).below (fun _ f => f.elim) (Nat.le_refl _)
      have hu5 := h4.later hBu
      have b4 := NObj.c4 (hu5.node _ x hx).obj
      have CC := names_clone (hu5.node _ x hx).names
      have HA4 := Lib.hid ht4
      have HAT := Lib.hid hat
      have HFT := Lib.hid hft
      have HB4 := Lib.hid hB4
      have HBU := Lib.hid hBu
      have HO5 := Lib.hid ho5
      have HRG := Lib.hid hrg1
      have HLT := Lib.hid hlt
      have HLE := Lib.hid hrg.left_eq
      have HX := Lib.hid hx
      have HLF := Lib.hid hlf
      have HRS := Lib.hid hrs
      have HZU := Lib.hid (show w4.heap.size < u5.heap.size from lt_of_heap ho5)
      obtain ⟨q0, hq0⟩ : ∃ q, G x.num = q := ⟨_, rfl⟩
      rw [hq0] at e5 a4 b4 CC
      unfold NObj zeroX at hw5
      unfold zeroX at s1 s2 s3 s4
      simp only at hw5 s1 s2 s3 s4 s5
      clear hrg hrg1 hlt hg1 hsz1 hB4 S4 ht ht4 hat hft h4 o4 hB5 o5 hs5 hBu hu5 hx hlf hrs ho5 hml hsz hq0
      go_wp2_with fail
      refine CC.mono ?_
      rintro e w6 ⟨q, rfl, hnq, hqn, hB6⟩
      have o6 : w6.heap[w4.heap.size]? = some (NObj x (G x.num)) := keeps_of hB6 HO5.out
      have t4 := NObj.c4 o6
      have g4 := NObj.fr o6 4
      obtain ⟨w7, hw7⟩ : ∃ w7, w6.setCell ⟨w4.heap.size, 4, none⟩ (.map q) = w7 := ⟨_, rfl⟩
      have o7 : w7.heap[w4.heap.size]? = some (NObj x q) := by rw [← hw7, heap_set o6]; rfl
      have S7 : Stir (fun i => i = w4.heap.size) w6 w7 := by rw [← hw7]; exact (Stir.refl (fun i => i = w4.heap.size) w6).set (.inl rfl) _
      have hB46 : Below w4.heap.size w4 w6 := HBU.out.trans (hB6.mono HBU.out.size)
      have hB47 : Below w4.heap.size w4 w7 := ((Stir.of_below (F := fun _ => False) hB46).trans S7 (fun i hi => .inr (by omega))).below (fun _ f => f.elim) (Nat.le_refl _)
      have n7 : NodeAt w7 w4.heap.size q x := ⟨o7, hnq.stay S7 (fun g hg e => by have := hqn g hg; have := HZU.out; omega)⟩
      have ht7 := HA4.out.later hB47
      have hnew : nodeAt U x.num = none := by rw [HAT.out, HLF.out]; rfl
      have hxn := HF.out.num x (at_mem HX.out).1
      have hU60 : U.length ≤ 60 := Nat.le_trans (len_sub HA4.out.rise (T := T) fun k y hy => by
        rw [HAT.out] at hy
        split at hy
        · cases hy
        · exact hy) HF.out.len
      obtain ⟨w8, hrun, hm8, ht8⟩ := ht7.map.store lawI Tryz.underlying51 (by unfold maxLen; omega) (keyI (k := x.num) ⟨by omega, by omega⟩) (val := .pointer (some ⟨w4.heap.size, 0, none⟩)) (d := .lit (.int .i64 w4.heap.size)) (ps := []) rfl
      have h8 := ht7.put hnew n7 (fun g hg f => by have := hqn g hg; have := HA4.out.lt f; have := HZU.out; omega) hm8 ht8
      have hB7 : Below w.heap.size w w7 := HB4.out.trans (hB47.mono HB4.out.size)
      have hB8 : Below w.heap.size w w8 := ((Stir.of_below (F := fun _ => False) hB7).turned (.inr (Nat.le_refl _)) ht8).below (fun _ f => f.elim) (Nat.le_refl _)
      have rg7 : w7.ranges Tryz.prog 3 ptrElem m w2.heap.size T.length D (fun z => left z && !z.sameKey (litI x.num)) cnt2 := HRG.out.kept (row := none) ⟨hB47.os, hB47.tape, hB47.output, hB47.size, fun k hk _ => hB47.block k hk⟩ (by simp) (by simp)
      have hml := HH.out.lt (.inr (.inl rfl))
      have hsz := HSZ.out
      have rg8 := rg7.kept ht8.grown (by simp; omega) (by simp; omega)
      have HC8 := Lib.hid (show CloneAt w w8 m w2.heap.size w1.heap.size w.heap.size T D (fun z => left z && !z.sameKey (litI x.num)) cnt2 from
        ⟨rg8, ⟨_, _, _, _, h8, fun k => (by
          rw [at_put, HAT.out]
          by_cases e : x.num = k
          · subst e
            rw [if_pos rfl, litI_self, HX.out]; simp
          · rw [if_neg e, litI_other (fun e2 => e e2.symm)]; simp), fun i hi => (by
          have hb := HB4.out.size
          have hr := HRS.out
          rcases foot_put hi with h | h | h
          · exact HFT.out i h
          · omega
          · have := hqn i h; have := HZU.out; omega)⟩, hB8⟩)
      have HM := Lib.hid (show w8.rangeLeft m w2.heap.size < wr.rangeLeft m w2.heap.size by rw [rg8.left_eq, HLE.out]; exact HLT.out)
      have c7 := TObj.c0 ht7.obj
      clear ht7 hnew hxn hU60 hm8 ht8 h8 hB7 hB8 rg7 hml hsz rg8 o6 o7 S7 hB46 hB47 n7 hnq hqn hB6 CC
      go_wp2
      go_roundw
      case rel => exact ⟨_, _, HC8⟩
      case measure => exact HM.out
end
end Go.Proofs.YtfokdmijkniomaaGreatDoor

namespace Go.Proofs.YtfokdmijkniomaaGreatDoor
open Go.RowKit Go Go.Maps

theorem TreeIs.less {B B' c : Nat} {F : Nat → Prop} {T : List Nod} {w : World} (h : TreeIs B F c T w) (hb : B' ≤ B) : TreeIs B' F c T w := by
  obtain ⟨m, P, G, D, h1, h2, h3⟩ := h
  exact ⟨m, P, G, D, h1, h2, fun k hk => Nat.le_trans hb (h3 k hk)⟩
/-- two trees of the call's own -/
def FxTwo (w0 w : World) (c d : Nat) (T U : List Nod) : Prop := ∃ F K, TreeIs w0.heap.size F c T w ∧ TreeIs w0.heap.size K d U w ∧ (∀ k, F k → ¬ K k) ∧ Below w0.heap.size w0 w
section
variable {w0 w w1 w' : World} {c d : Nat} {T U : List Nod}
theorem FxTwo.swap (h : FxTwo w0 w c d T U) : FxTwo w0 w d c U T := by
  obtain ⟨F, K, h1, h2, h3, h4⟩ := h
  exact ⟨K, F, h2, h1, fun k a b => h3 k b a, h4⟩
theorem FxTwo.one (h : FxTwo w0 w c d T U) : FxAt w0 w c T := by
  obtain ⟨F, K, h1, _, _, h4⟩ := h
  exact ⟨F, h1, h4⟩
theorem FxTwo.two (h : FxTwo w0 w c d T U) : FxAt w0 w d U := h.swap.one
theorem FxTwo.below (h : FxTwo w0 w c d T U) : Below w0.heap.size w0 w := h.one.below
theorem FxTwo.later (h : FxTwo w0 w c d T U) (hB : Below w.heap.size w w') : FxTwo w0 w' c d T U := by
  obtain ⟨F, K, h1, h2, h3, h4⟩ := h
  exact ⟨F, K, h1.later hB, h2.later hB, h3, h4.trans (hB.mono h4.size)⟩
theorem FxTwo.left {F K : Nat → Prop} {T' : List Nod} (h1 : TreeIs w0.heap.size F c T w) (h2 : TreeIs w0.heap.size K d U w) (h3 : ∀ k, F k → ¬ K k) (h4 : Below w0.heap.size w0 w) (k : LeftT w0.heap.size F c T' w w') : FxTwo w0 w' c d T' U := by
  obtain ⟨F', k1, k2, k3⟩ := k
  refine ⟨F', K, k1, h2.stay k2 (fun b hb f => h3 b f hb), fun b hb hk => ?_, ?_⟩
  · rcases k3 b hb with f | f
    · exact h3 b f hk
    · have := h2.lt hk; omega
  · exact ((Stir.of_below (F := fun _ => False) h4).trans k2 (fun i hi => .inr (h1.low hi))).below (fun _ f => f.elim) (Nat.le_refl _)
end
end Go.Proofs.YtfokdmijkniomaaGreatDoor

