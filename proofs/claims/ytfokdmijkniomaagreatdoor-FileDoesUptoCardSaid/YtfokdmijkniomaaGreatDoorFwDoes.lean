/-
  Whatever commands are done, in any order, each answer, each node, and what any path tells, is as the document says: for every list of commands and of looks of a bulk of at most 1048576.
  Conditions: none besides the row's own.
-/
import Derived.Test.YtfokdmijkniomaaGreatDoorS6
import Derived.Test.YtfokdmijkniomaaGreatDoorKS
import Derived.OwnWalk
namespace Go.Proofs.YtfokdmijkniomaaGreatDoor.fdoes
open Go.Proofs.YtfokdmijkniomaaGreatDoor
open Go.ChangeShapes Go.WideShapes Go.ChangeAt Go.RowKit Go

/-- the commands that are done on the elder tree, behind a Clone -/
def left1 : Cmd := ⟨0, ⟨#[47, 108, 101, 102, 116]⟩, ⟨#[]⟩, 0, ⟨#[]⟩⟩
def left2 : Cmd := ⟨2, ⟨#[47, 97]⟩, ⟨#[]⟩, 0, ⟨#[108, 101, 102, 116]⟩⟩
theorem left_in : (CmdIn left1 ∧ left1.path.size + left1.dest.size ≤ 100000000) ∧ CmdIn left2 ∧ left2.path.size + left2.dest.size ≤ 100000000 := by
  refine ⟨⟨⟨?_, ?_, ?_, ?_, ?_⟩, ?_⟩, ⟨?_, ?_, ?_, ?_, ?_⟩, ?_⟩ <;> (first | decide | (unfold IntOk left1; decide) | (unfold IntOk left2; decide))
set_option maxRecDepth 100000 in
set_option maxHeartbeats 16000000 in
theorem walk (va vb : Value) (cs : List Cmd) (ls : List (ByteArray × Int × Int)) (w : World) (hOa : LstAt cmdC 5 w va cs) (hza : cs.length ≤ 9223372036854775807) (hok : ∀ c ∈ cs, CmdIn c ∧ c.path.size + c.dest.size ≤ 100000000 ∧ SmallC c) (hOb : LooksAt w vb ls) (hlk : LooksOk ls) (hg : GE w) :
    Calls Tryz.prog 3 #[va, vb] w fun e w' => e = .returned (.bool true) ∧ Below w.heap.size w w' := by
  obtain ⟨aa, capa, rfl, ha⟩ := hOa
  obtain ⟨ab, capb, rfl, hbb⟩ := hOb
  have HA := Lib.hid ha
  have HBL := Lib.hid hbb
  have HOK := Lib.hid hok
  have HLK := Lib.hid hlk
  have HG := Lib.hid hg
  have C := fnew w
  clear ha hbb hok hlk hg
  go_enter Tryz.func3, Tryz.ntmps3
  go_wp2_with fail
  refine C.mono ?_
  rintro e w1 ⟨c, rfl, hx1⟩
  have CN := pair_new hx1
  clear C hx1
  go_wp2_with fail
  refine CN.mono ?_
  rintro e w2 ⟨tb, rfl, hp⟩
  have HP := Lib.hid hp
  clear CN hp
  go_wp2
  go_loopw [5, 7] (fun u i wr => ∃ (j d : Nat) (T : List Nod), j ≤ cs.length ∧ j ≤ 150 ∧ i = .int .i64 j ∧ u = .pointer (some ⟨d, 0, none⟩) ∧ Hid (DPair w wr d tb T T) ∧ Hid (Good T)) (fun _ i _ => cs.length - (intOf i).toNat)
  case atStart => exact ⟨0, c, newT, Nat.zero_le _, Nat.zero_le _, rfl, rfl, HP, Lib.hid good_new⟩
  case round =>
    obtain ⟨j, d, T, hj, hj150, rfl, rfl, HP, HT⟩ := hrel
    by_cases hlt : j < cs.length
    · by_cases h150 : j < 150
      · have hji : (j : Int) < (cs.length : Int) := by omega
        have hjk : (j : Int) < 150 := by omega
        obtain ⟨bb, off, rfl, hb, hc⟩ := HA.out (by rintro rfl; simp at hlt)
        have HC := Lib.hid (fun (W : World) (hB : Below w.heap.size w W) => show
            W.cell? ⟨bb, off + j * 5, none⟩ = some (.int .i64 cs[j].kind) ∧ W.cell? ⟨bb, off + j * 5 + 1, none⟩ = some (.string cs[j].path) ∧ W.cell? ⟨bb, off + j * 5 + 2, none⟩ = some (.string cs[j].dest) ∧ W.cell? ⟨bb, off + j * 5 + 3, none⟩ = some (.int .i64 cs[j].place) ∧ W.cell? ⟨bb, off + j * 5 + 4, none⟩ = some (.string cs[j].data) from by
          have hk : ∀ i, W.cell? ⟨bb, i, none⟩ = w.cell? ⟨bb, i, none⟩ := fun i => World.cell?_of_block (hB.block bb hb)
          rw [hk, hk, hk, hk, hk]
          exact ⟨hc j hlt 0 (by omega), hc j hlt 1 (by omega), hc j hlt 2 (by omega), hc j hlt 3 (by omega), hc j hlt 4 (by omega)⟩)
        obtain ⟨hci, hcl, hcs⟩ := HOK.out cs[j] (List.getElem_mem hlt)
        generalize cs[j] = q at *
        have HCI := Lib.hid hci
        have HCL := Lib.hid hcl
        have HCS := Lib.hid hcs
        clear hb hc hci hcl hcs
        obtain ⟨qb, hqb⟩ : ∃ b : Bool, ((j : Int) % 11 == 10) = b := ⟨_, rfl⟩
        have hne : T ≠ [] := fun e => by
          obtain ⟨r, hr, _⟩ := HT.out.formed.root
          rw [e] at hr; cases hr
        have HNE := Lib.hid hne
        clear hne
        go_upto_if 43 with fail
        go_cut [5, 8] from 44 to 52 (fun u' _ wx => ∃ d' : Nat, u' = .pointer (some ⟨d', 0, none⟩) ∧ Hid (DPair w wx d' tb T T))
        case first =>
          cases qb with
          | true =>
            have CC := pair_clone HP.out HT.out HNE.out
            go_wp2_with fail
            refine CC.mono ?_
            rintro e w3 ⟨d2, rfl, h3⟩
            have CL1 := three_do h3 HT.out HNE.out left1 left_in.1.1 left_in.1.2 HG.out
            have HER1 := Lib.hid (HT.out.does left1)
            unfold cmdV left1 at CL1
            simp only at CL1
            clear CC h3
            go_wp2_with fail
            refine CL1.mono ?_
            rintro e w4 ⟨rfl, h4⟩
            have CL2 := three_do h4 HER1.out HNE.out left2 left_in.2.1 left_in.2.2 HG.out
            unfold cmdV left2 at CL2
            simp only at CL2
            clear CL1 h4
            go_wp2_with fail
            refine CL2.mono ?_
            rintro e w5 ⟨rfl, h5⟩
            have H5 := Lib.hid h5.pair
            clear CL2 h5
            go_wp2
            go_meet
            exact ⟨_, rfl, H5⟩
          | false =>
            go_wp2
            go_meet
            exact ⟨_, rfl, HP⟩
        case rest =>
          obtain ⟨d', rfl, HP2⟩ := hcut
          have CD := pair_do HP2.out HT.out HNE.out q HCI.out HCL.out HG.out
          have HER := Lib.hid (HT.out.does q)
          have HRD := Lib.hid (show ∀ (W : World) (V : List Nod), DPair w W d' tb V T → Calls Tryz.prog 8 #[.pointer (some ⟨tb, 0, none⟩), cmdV q] W fun e w' => e = .returned (.int .i64 (doV T q).2) ∧ DPair w w' d' tb V (doV T q).1 from fun W V h => pair_rdo h HT.out q HCS.out)
          obtain ⟨p0, p1, p2, p3, p4⟩ := HC.out _ HP2.out.below
          generalize (doV T q).2 = E at *
          generalize (doV T q).1 = U at *
          unfold cmdV at CD HRD
          clear HP hqb
          go_wp2_with fail
          refine CD.mono ?_
          rintro e w3 ⟨rfl, h3⟩
          have CR := HRD.out w3 U h3
          obtain ⟨r0, r1, r2, r3, r4⟩ := HC.out _ h3.below
          have hEE : (E == E) = true := by simp
          have hEN : (E != E) = false := by simp
          clear CD h3 p0 p1 p2 p3 p4
          go_wp2_with fail
          refine CR.mono ?_
          rintro e w4 ⟨rfl, h4⟩
          have H4 := Lib.hid h4
          have hlen : U.length ≤ 60 := HER.out.formed.len
          clear CR h4 r0 r1 r2 r3 r4
          go_wp2
          go_loopw [11] (fun t wt => ∃ k : Nat, k ≤ 2 ∧ t = .int .i64 k ∧ Hid (DPair w wt d' tb U U)) (fun t _ => 2 - (intOf t).toNat)
          case atStart => exact ⟨0, by omega, rfl, H4⟩
          case round =>
            obtain ⟨k, hk, rfl, HPt⟩ := hrel
            by_cases hk2 : k < 2
            · have hki : (k : Int) < 2 := by omega
              obtain ⟨wm, hwm⟩ : ∃ u, u = wr := ⟨_, rfl⟩
              have CNd := fnodes3 HPt.out.one HER.out
              go_wp2_with fail
              refine CNd.mono ?_
              rintro e w6 ⟨a, cap, rfl, hl, hsp, hB6⟩
              have HP6 := Lib.hid (HPt.out.later hB6)
              obtain ⟨lv, hrt⟩ := HP6.out.two
              have m0 := RTObj.c0 hrt.obj
              have CSm := nsame_any hl hrt.list (by rw [tolds_len]; omega) (by rw [tolds_len]; omega)
              have HB6 := Lib.hid hB6
              have HSP := Lib.hid hsp
              clear CNd hl hsp hB6 hrt
              go_wp2_with fail
              refine CSm.mono ?_
              rintro e w7 ⟨⟨bs, rfl, hbs⟩, hB7⟩
              obtain rfl := hbs.2 (by first | trivial | rfl)
              have HB7 := Lib.hid (HB6.out.trans (hB7.mono HB6.out.size))
              have HS7 := Lib.hid (show SpN U.length a wr.heap.size w7 from fun h => by
                obtain ⟨g, cur, h1, h2, h3, h4⟩ := HSP.out h
                exact ⟨g, cur, h1, h2, keeps_of hB7 h3, h4⟩)
              obtain ⟨N, hN⟩ : ∃ N, U.length = N := ⟨_, rfl⟩
              rw [hN] at HS7 ⊢
              have HN60 := Lib.hid (show N ≤ 60 by omega)
              clear CSm hbs hB7 m0 HSP
              go_wp2
              go_loopw [13] (fun x wt => ∃ i : Nat, i ≤ N ∧ x = .int .i64 i ∧ Hid (Below wm.heap.size wm wt) ∧ Hid (SpN N a wm.heap.size wt)) (fun x _ => N - (intOf x).toNat)
              case atStart => exact ⟨0, Nat.zero_le _, rfl, by rw [hwm]; exact HB7, by rw [hwm]; exact HS7⟩
              case round =>
                obtain ⟨i, hi, rfl, HBt, HSt⟩ := hrel
                have hN60 := HN60.out
                by_cases hiN : i < N
                · have hii : (i : Int) < (N : Int) := by omega
                  obtain ⟨g, cur, rfl, hgb, hh, hcur⟩ := HSt.out (by omega)
                  obtain ⟨x0, x1, x2, x3, u1, u2, u3, u4, ⟨e1, e2, e3, e4⟩, ⟨k0, k1, k2, k3⟩, ⟨f0, f1, f2, f3⟩, ⟨cur', hc', hcs'⟩, hbw⟩ := spoil_one (o := 0 + i * 4) hh (by omega) hgb
                  simp only [Nat.zero_add] at e1 e2 e3 e4 k0 k1 k2 k3 f0 f1 f2 f3
                  have HBn := Lib.hid (hbw _ HBt.out)
                  have HSn := Lib.hid (show SpN N (some ⟨g, 0, none⟩) wm.heap.size u4 from fun _ => ⟨g, cur', rfl, hgb, hc', by omega⟩)
                  clear hh hc' hcs' hbw hcur
                  go_wp2
                  go_roundw
                  case rel => exact ⟨i + 1, hiN, by go_num, HBn, HSn⟩
                  case measure => simp [intOf]; omega
                · have hii : ¬ (i : Int) < (N : Int) := by omega
                  have HPn := Lib.hid (show DPair w wr d' tb U U from (hwm ▸ HPt).out.later HBt.out)
                  go_wp2
                  go_roundw
                  case rel => exact ⟨k + 1, by omega, by go_num, HPn⟩
                  case measure => simp [intOf]; omega
            · obtain rfl : k = 2 := by omega
              clear hk2
              by_cases hjl : j < ls.length
              · have hjli : ¬ (ls.length : Int) ≤ (j : Int) := by omega
                obtain ⟨bl, ol, rfl, hbl, hcl⟩ := HBL.out (by rintro rfl; simp at hjl)
                have hce : ∀ i, wr.cell? ⟨bl, i, none⟩ = w.cell? ⟨bl, i, none⟩ := fun i => World.cell?_of_block (HPt.out.below.block bl hbl)
                obtain ⟨l0, l1, l2⟩ := hcl j hjl
                rw [← hce] at l0 l1 l2
                obtain ⟨o1, o2, o3⟩ := HLK.out.2 ls[j] (List.getElem_mem hjl)
                generalize ls[j].1 = ph at *
                generalize ls[j].2.1 = pa at *
                generalize ls[j].2.2 = pn at *
                have HO := Lib.hid (And.intro o1 (And.intro o2 (show ph.size ≤ 281474976710656 by omega)))
                have HL0 := Lib.hid (And.intro l0 (And.intro l1 l2))
                obtain ⟨wv, v1, v2, v3, hwv, ⟨e1, e2, e3⟩, ⟨c0, c1, c2⟩, ⟨f0, f1, f2⟩, hlo, hlb⟩ := look_box ph pa pn wr
                have HP1 := Lib.hid (HPt.out.later hlb)
                have HLO := Lib.hid hlo
                obtain ⟨b0, b1, b2⟩ := look_cells hlo
                have CG := fget HP1.out.one HER.out HO.out.2.2
                obtain ⟨R, hR⟩ : ∃ R, getV U ph = R := ⟨_, rfl⟩
                rw [hR] at CG
                have HR := Lib.hid hR
                unfold ndeV at CG
                clear hbl hcl hce o1 o2 o3 hlo hlb hR
                go_wp2_with fail
                refine CG.mono ?_
                rintro e wa ⟨rfl, hBa⟩
                have HPa := Lib.hid (HP1.out.later hBa)
                have HLa := Lib.hid (keeps_of hBa HLO.out)
                clear hBa CG hwv e1 e2 e3 c0 c1 c2 f0 f1 f2 b0 b1 b2 l0 l1 l2
                obtain ⟨wA, x1, x2, x3, x4, hwA, ⟨k1, k2, k3, k4⟩, ⟨p1, p2, p3, p4⟩, ⟨r1, r2, r3, r4⟩, hnb, hBB, -⟩ := nde_box R.1 wa
                have HPb := Lib.hid (HPa.out.later hBB)
                have HLb := Lib.hid (keeps_of hBB HLa.out)
                have HNb := Lib.hid hnb
                obtain ⟨lvb, hrb⟩ := HPb.out.two
                obtain ⟨b0, b1, b2⟩ := look_cells HLb.out
                have CG := rget_any hrb HER.out.formed HO.out.2.2
                rw [HR.out] at CG
                unfold ndeV at CG
                clear hnb hBB hrb
                go_wp2_with fail
                refine CG.mono ?_
                rintro e wc ⟨rfl, hBc⟩
                have HPc := Lib.hid (HPb.out.later hBc)
                have HLc := Lib.hid (keeps_of hBc HLb.out)
                have HNc := Lib.hid (HNb.out.later hBc)
                clear hBc CG hwA k1 k2 k3 k4 p1 p2 p3 p4 r1 r2 r3 r4 b0 b1 b2
                obtain ⟨wB, x1, x2, x3, x4, hwB, ⟨k1, k2, k3, k4⟩, ⟨p1, p2, p3, p4⟩, ⟨r1, r2, r3, r4⟩, hnd, hBB, -⟩ := nde_box R.1 wc
                have HPd := Lib.hid (HPc.out.later hBB)
                have HLd := Lib.hid (keeps_of hBB HLc.out)
                have HNd := Lib.hid (HNc.out.later hBB)
                have HMd := Lib.hid hnd
                obtain ⟨b0, b1, b2⟩ := look_cells HLd.out
                have CR := fread HPd.out.one HER.out HO.out.2.2 pa pn HO.out.1 HO.out.2.1
                have CRR := fun (W : World) (h : DPair w W d' tb U U) => rread_any h.two.choose_spec HER.out.formed HO.out.2.2 pa pn
                generalize readV U ph pa pn = V at *
                clear hnd hBB
                go_wp2_with fail
                refine CR.mono ?_
                rintro e we ⟨rfl, hBe⟩
                have HPe := Lib.hid (HPd.out.later hBe)
                have HLe := Lib.hid (keeps_of hBe HLd.out)
                have HNe := Lib.hid (HNd.out.later hBe)
                have HMe := Lib.hid (HMd.out.later hBe)
                clear hBe CR hwB k1 k2 k3 k4 p1 p2 p3 p4 r1 r2 r3 r4 b0 b1 b2
                obtain ⟨b0, b1, b2⟩ := look_cells HLe.out
                have CR := CRR we HPe.out
                go_wp2_with fail
                refine CR.mono ?_
                rintro e wf ⟨rfl, hBf⟩
                have HPf := Lib.hid (HPe.out.later hBf)
                have HLf := Lib.hid (keeps_of hBf HLe.out)
                have HNf := Lib.hid (HNe.out.later hBf)
                have HMf := Lib.hid (HMe.out.later hBf)
                clear hBf CR CRR b0 b1 b2
                obtain ⟨b0, b1, b2⟩ := look_cells HLf.out
                have CL := flist HPf.out.one HER.out HO.out.2.2
                obtain ⟨A, ek, hA60, hag1, hag2⟩ := list_agree HER.out.formed ph
                have HA2 := Lib.hid hag2
                have HA1 := Lib.hid hag1
                clear hag1 hag2
                go_wp2_with fail
                refine CL.mono ?_
                rintro e wg ⟨hle, hBg⟩
                obtain ⟨va, rfl, hta⟩ := HA1.out _ _ _ hle
                have HPg := Lib.hid (HPf.out.later hBg)
                have HLg := Lib.hid (keeps_of hBg HLf.out)
                have HNg := Lib.hid (HNf.out.later hBg)
                have HMg := Lib.hid (HMf.out.later hBg)
                have HTA := Lib.hid hta
                clear hBg CL b0 b1 b2 hle hta HA1
                obtain ⟨b0, b1, b2⟩ := look_cells HLg.out
                obtain ⟨lvg, hrg⟩ := HPg.out.two
                have CL := rlist_any hrg HER.out.formed HO.out.2.2
                clear hrg
                go_wp2_with fail
                refine CL.mono ?_
                rintro e wh ⟨hle, hBh⟩
                obtain ⟨vb, rfl, htb⟩ := HA2.out _ _ hle
                have HPh := Lib.hid (HPg.out.later hBh)
                obtain ⟨s0, s1, s2, s3⟩ := (HNg.out.later hBh).cells
                obtain ⟨t0, t1, t2, t3⟩ := (HMg.out.later hBh).cells
                have CT := rsame_any (texts_later HTA.out hBh) htb (by omega) (by omega)
                simp only [decide_true] at CT
                obtain ⟨bo, hbe, hbo⟩ := nde_neq R.1 R.1 wh
                obtain rfl := hbo.2 rfl
                have hgd := nde_guard R.1 R.1 wh
                unfold ndeV at hbe hgd
                have tq : (V.1.toList != V.1.toList) = false := by simp
                clear hBh CL b0 b1 b2 hle htb HA2 hbo hA60
                go_wp2_with fail
                refine CT.mono ?_
                rintro e wi ⟨rfl, hBi⟩
                have HPi := Lib.hid (HPh.out.later hBi)
                clear hBi CT hbe hgd s0 s1 s2 s3 t0 t1 t2 t3
                go_wp2
                go_roundw
                case rel => exact ⟨j + 1, d', U, hlt, h150, by go_num, rfl, HPi, HER⟩
                case measure => simp [intOf]; omega
              · have hjli : (ls.length : Int) ≤ (j : Int) := by omega
                go_wp2
                go_roundw
                case rel => exact ⟨j + 1, d', U, hlt, h150, by go_num, rfl, HPt, HER⟩
                case measure => simp [intOf]; omega
      · obtain rfl : j = 150 := by omega
        have hji : ((150 : Nat) : Int) < (cs.length : Int) := by omega
        have CF := fixed_any wr (HG.out.below HP.out.below)
        have HBw := Lib.hid HP.out.below
        go_wp2_with fail
        refine CF.mono ?_
        rintro e w5 ⟨rfl, hB5⟩
        have HB5 := Lib.hid (HBw.out.trans (hB5.mono HBw.out.size))
        clear hB5 CF
        go_wp2
        go_ret
        exact ⟨rfl, HB5.out⟩
    · obtain rfl : j = cs.length := by omega
      have hji : ¬ (cs.length : Int) < (cs.length : Int) := by omega
      have CF := fixed_any wr (HG.out.below HP.out.below)
      have HBw := Lib.hid HP.out.below
      go_wp2_with fail
      refine CF.mono ?_
      rintro e w5 ⟨rfl, hB5⟩
      have HB5 := Lib.hid (HBw.out.trans (hB5.mono HBw.out.size))
      clear hB5 CF
      go_wp2
      go_ret
      exact ⟨rfl, HB5.out⟩
set_option maxRecDepth 100000 in
/-- WHAT THE WALK GIVES, for every argument that can be read. -/
theorem contract (H : Type) (enc : TypeId × Value → H) (W : World) (base : Nat) (args : Array Value) (ds gs : List (DataW H)) (before : List MemPlace)
    (hval : ∀ (j : Nat) t v, Tryz.f3.params[j]? = some t → args[j]? = some v → Value.okWide Tryz.prog W .any base t v)
    (hW : DataW.Whole enc Tryz.prog Tryz.f3.params.toList Rows.fileDoesSpec.vars false W args.toList ds gs before)
    (hreach : (DataW.weightsEach Tryz.prog (Tryz.f3.params.toList) ds).all (· ≤ reachBytes) = true) (hcond : Rows.uptoBulkAll ds ≤ 1048576) (hg : GE W) :
    Calls Tryz.prog 3 args W fun e W' => ∃ v, e = .returned v ∧ Rows.fileDoesSpec.post enc Tryz.prog Tryz.f3 false true false false W args v W' := by
  have hW' := hW
  obtain ⟨p, q, hA0, hV, rfl, hfz, hnd⟩ := hW
  have hA : DataW.TrodAll enc Tryz.prog W 0 (fun _ => true) true Tryz.f3.params.toList args.toList ds p := hA0
  rw [Tryz.params3] at hA hval hreach
  obtain ⟨v0, v1, d0, d1, p0, p1, rfl, rfl, rfl, h0, h1⟩ := trodAll_two hA
  obtain ⟨rfl, rfl⟩ := trodVars_none hV
  have lt0 : ∀ x ∈ p0, x.block < W.heap.size := fun x hx => hW'.lt x (by simp [hx])
  obtain ⟨l0, k0, r0⟩ := ops_open (hval 0 22 v0 rfl rfl) h0 lt0 hreach (j := 0) rfl rfl
  have lt1 : ∀ x ∈ p1, x.block < W.heap.size := fun x hx => hW'.lt x (by simp [hx])
  obtain ⟨l1, k1, r1⟩ := looks_open (hval 1 23 v1 rfl rfl) h1 lt1 hreach (j := 1) rfl rfl
  clear hA0 hval
  simp only [List.append_nil] at hW'
  have hup := ops_up3 h0 k0 (Nat.le_trans (bulk_part (by simp)) hcond)
  obtain ⟨cs0, g0, gl0, gk0⟩ := cmds_small k0 r0 hup
  refine (walk v0 v1 cs0 l1 W g0 gl0 gk0 k1 r1 hg).mono fun e W' ⟨he, hB⟩ => ?_
  subst he
  exact ⟨_, rfl, post_of_below (pa := p0 ++ (p1)) (pv := []) hW' (fun _ _ _ => trodAll_mk1 (shut_bool Tryz.underlying4 _)) (fun sp hsp => trodAll_mk2 (WideElems.Trod_stays laidOut (by kernel_rfl) (of_decide_eq_true (by kernel_rfl)) h0 (fun x hx => hB.same (lt0 x hx)) (fun x hx => hsp x (by simp [hx]))) (WideElems.Trod_stays laidOut (by kernel_rfl) (of_decide_eq_true (by kernel_rfl)) h1 (fun x hx => hB.same (lt1 x hx)) (fun x hx => hsp x (by simp [hx])))) (fun _ _ => rfl) (by simp) hB (ok_one (by kernel_rfl) rfl (okWide_bool_mk Tryz.underlying4 _))⟩

theorem reads (os : Os) {H : Type} (enc : TypeId × Value → H) : ∃ places, DataW.whole enc Tryz.prog ((laidWorld os).forCall (fun _ _ => 0) ⟨#[], #[.slice none 0 0, .slice none 0 0], []⟩).memory Tryz.f3.params.toList Rows.fileDoesSpec.vars false (#[.slice none 0 0, .slice none 0 0] : Array Value).toList 8 = some ([.nil, .nil], [], places) :=
  ⟨[], by kernel_rfl⟩

set_option maxRecDepth 100000 in
theorem lifted (os : Os) (started : os.Started) (H : Type) (enc : TypeId × Value → H) (F : Stop.Interp) :
    ReturnsInHanded {} Tryz.checked os 3 .any ((Rows.OpenSpec.upto Rows.fileDoesSpec).preRow enc Tryz.prog Tryz.f3 Rows.fileDoesUptoRow.domain false Rows.fileDoesUptoRow.laid) (((Rows.OpenSpec.upto Rows.fileDoesSpec).at F).post enc Tryz.prog Tryz.f3 false true false false) := by
  obtain ⟨places, hx⟩ := reads os enc
  refine returnsInHanded_of_row (C := Tryz.checked) (s := Rows.OpenSpec.upto Rows.fileDoesSpec) own started (by kernel_rfl) Tryz.func3
    (witness_row_at (enc := enc) (C := Tryz.checked) false (laidWorld os) #[.slice none 0 0, .slice none 0 0] rfl (by kernel_rfl) (by kernel_rfl) (by kernel_rfl)
      (OpenSpec.preRow_of_cond 8 hx (by kernel_rfl) (fun k hk => by cases hk; kernel_rfl) (by kernel_rfl) (laid_met os _))) ?_
  intro W base args ds gs before hval hW _ hcond hreach hL _ _
  obtain ⟨p, q, hA0, hV, hpq, hfz, hnd⟩ := id hW
  obtain ⟨rfl, _⟩ := trodVars_none hV
  rw [List.append_nil] at hreach
  exact contract H enc W base args ds [] before hval hW hreach (by have h := of_decide_eq_true (hcond _ rfl); simpa using h) (handle_of_laid hL)

theorem said : Rows.FileDoesUptoSaid :=
  OpenClaim.holds_of_cond 3 Tryz.f3 rfl rfl rfl rfl rfl rfl rfl ⟨rfl, rfl, rfl, rfl, rfl⟩ rfl rfl rfl rfl rfl (by kernel_rfl) Tryz.func3 (by kernel_rfl)
    (of_decide_eq_true (by kernel_rfl)) (by unfold Func.isWrapper; first | (rw [if_pos (by decide +kernel)]; kernel_rfl) | (rw [if_neg (by decide +kernel)]; exact ⟨rfl, rfl⟩))
    (fun os started H enc _ F => by rw [OpenClaim.pre_eq_preRow]; exact lifted os started H enc F)

theorem plain (f : FuncId) (fn : Func) (hf : Tryz.pinned.checked.prog.funcNamed "stillage/stillagelaw14.FileDoes" = some f) (hfn : Tryz.pinned.checked.prog.funcs[f]? = some fn) :
    true = Tryz.pinned.checked.prog.looks [] ∧ ∀ (j : Nat) t, fn.params[j]? = some t → Tryz.pinned.checked.prog.wantsStandIn t = false := by
  obtain rfl : f = 3 := Option.some.inj ((show Tryz.prog.funcNamed "stillage/stillagelaw14.FileDoes" = some 3 by kernel_rfl).symm.trans hf) |>.symm
  obtain rfl : fn = Tryz.f3 := (Option.some.inj (Tryz.func3.symm.trans hfn)).symm
  refine ⟨by kernel_rfl, fun j t ht => ?_⟩
  rw [Tryz.params3] at ht
  have hm : t ∈ [22, 23] := by simpa using Array.mem_of_getElem? ht
  have hall : ([22, 23].all fun u => !Tryz.prog.wantsStandIn u) = true := by kernel_rfl
  exact (show Tryz.prog.wantsStandIn t = false by simpa using List.all_eq_true.1 hall t hm)

/-- THE CARD -/
theorem card : Rows.FileDoesUptoCardSaid :=
  Claim7.holds_tied_plain_at .later [] _ _ _ _ said (fun _ h => by cases h) (by kernel_rfl) (fun _ h => by cases h) fileDoesUpto_row_tie rfl ⟨rfl, rfl⟩ (by kernel_rfl) rfl plain (by kernel_rfl)


end Go.Proofs.YtfokdmijkniomaaGreatDoor.fdoes

