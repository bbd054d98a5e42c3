/-
  When the power is gone nothing is appended or begun, and the log says so for good, and what there was is there when it is opened anew: for every list of texts, of which the first sixty are appended, and every set that is kept.
  Conditions: none besides the row's own.
-/
import Derived.Test.YthnpdiopaeommaaNvQ
import Derived.Test.YthnpdiopaeommaaKitS
import Derived.OwnWalk
namespace Go.Proofs.Ythnpdiopaeommaa.dies
open Go.ChangeShapes Go.WideShapes Go.ChangeAt Go.RowKit Go

def xB : ByteArray := ⟨#[120]⟩
set_option maxRecDepth 100000 in
set_option maxHeartbeats 8000000 in
theorem walk (va : Value) (rs : List ByteArray) (keep : ByteArray) (w : World) (hOa : StrsAt w va rs) (hza : rs.length ≤ 140737488351232 ∧ ∀ s ∈ rs, s.size ≤ 140737488351232) (hk : keep.size ≤ 140737488351232) :
    Calls Try.prog 7 #[va, .string keep] w fun r w' => r = .returned (.bool true) ∧ Below w.heap.size w w' := by
  obtain ⟨aa, capa, rfl, ha⟩ := hOa
  have HA := Lib.hid ha
  have HZ := Lib.hid hza
  have hza1 := hza.1
  have CL := laid_log 60 0 ⟨by decide, by decide⟩ ⟨by decide, by decide⟩ w
  have CF := fun w => fixed7_any w
  clear ha hza
  go_enter Try.func7, Try.ntmps7
  go_wp2_with fail
  refine CL.mono ?_
  rintro e w1 ⟨b, g, m, r, n, a, a2, rfl, hl, hn⟩
  obtain rfl : n = 60 := by omega
  have hE := (good_new (n := 60) (by omega) (by omega)).1
  obtain ⟨l, q, rfl, rfl, h1⟩ := hl.lw hE
  have hc0 := calm_new (n := 60) (by omega) (by omega)
  have H1 := Lib.hid h1
  have C0 := Lib.hid (And.intro hc0 (show (⟨(0 : Int).toNat, [], false, formD (fresh (blank 60)) 0⟩ : LS).gen = 0 from rfl))
  clear hl hE h1 hc0 CL hn
  generalize (⟨(0 : Int).toNat, [], false, formD (fresh (blank 60)) 0⟩ : LS) = x0 at *
  go_wp2
  go_loopw [10] (fun i wr => ∃ (j : Nat) (x : LS), j ≤ rs.length ∧ j ≤ 60 ∧ i = .int .i64 j ∧ LW w l b g m x wr ∧ Hid (Calm7 x (2 + 30 * j) ∧ x.gen = 0)) (fun i _ => rs.length - (intOf i).toNat)
  case atStart => exact ⟨0, x0, Nat.zero_le _, by omega, rfl, H1.out, Lib.hid C0.out⟩
  case round =>
    obtain ⟨j, x, hj, hj1, rfl, hw, HG⟩ := hrel
    clear H1 C0
    have HLW := Lib.hid hw
    have hmx : x.disk.made < 900000000 := by have := HG.out.1.made; omega
    by_cases hlt : j < rs.length ∧ j < 60
    · obtain ⟨hlt1, hlt2⟩ := hlt
      obtain ⟨bb, off, rfl, hb, hc⟩ := HA.out (by rintro rfl; simp at hlt1)
      have hji : (j : Int) < (rs.length : Int) := by omega
      have hj2 : (j : Int) < 60 := by omega
      have hcw : wr.cell? ⟨bb, off + j, none⟩ = some (.string rs[j]) := (hw.below.cell (p := ⟨bb, off + j, none⟩) hb).trans (hc j hlt1)
      have hRs := HZ.out.2 rs[j] (List.getElem_mem hlt1)
      have CA := fun W (h : LW w l b g m x W) => h.append hmx rs[j] (by omega)
      have HN := Lib.hid (And.intro (HG.out.1.app rs[j]) ((gen_app x rs[j]).trans HG.out.2))
      generalize rs[j] = R at *
      generalize x.app R = y at *
      generalize x.appE R = E at *
      clear hw hc hlt1
      go_wp2_with fail
      refine (CA _ HLW.out).mono ?_
      rintro e w7 ⟨rfl, h7, _⟩
      have H7 := Lib.hid h7
      clear h7 CA
      go_wp2
      go_roundw
      case rel => exact ⟨j + 1, y, by omega, by omega, by go_num, H7.out, Lib.hid ⟨⟨HN.out.1.good, HN.out.1.arm, by have := HN.out.1.made; omega⟩, HN.out.2⟩⟩
      case measure => simp [intOf]; omega
    · have hlt' : (j < rs.length ∧ ¬ j < 60) ∨ ¬ j < rs.length := by omega
      have hgood := HG.out.1.good
      have hgen := HG.out.2
      have K1 := fun W (h : LW w l b g m x W) => h.records
      have K2 := fun W (h : LW w l b g m x W) => h.crash hmx (keep := keep) (by omega)
      have hce : x.disk.crashE = 0 := by simp [DS.crashE, hgood.quiet.dead]
      rw [hce] at K2
      obtain ⟨e1, e2⟩ := dies_start hgood hgen keep
      have hcm : (x.crashed keep).disk.made < 900000000 := by
        show (x.disk.crash keep).made < _
        unfold DS.crash
        split <;> simpa [DS.goes] using hmx
      have K3 := fun W (h : LW w l b g m (x.crashed keep) W) => h.start hcm 9 ⟨by decide, by decide⟩
      obtain ⟨d1, d2, d3, d4⟩ := dies_then hgen (s := (x.disk.crash keep).revive) xB (by decide)
      obtain ⟨o1, o2, o3⟩ := dies_open HG.out.1 keep
      have hrm := o3.takes_room xB (by decide)
      have HRm := Lib.hid hrm
      obtain ⟨x2, hx2⟩ : ∃ x2 : LS, { x.crashed keep with dead := true } = x2 := ⟨_, rfl⟩
      obtain ⟨x3, hx3⟩ : ∃ x3 : LS, { x with dead := true, disk := (x.disk.crash keep).revive } = x3 := ⟨_, rfl⟩
      obtain ⟨x4, hx4⟩ : ∃ x4 : LS, { x with disk := (x.disk.crash keep).revive } = x4 := ⟨_, rfl⟩
      rw [e1, e2, hx2] at K3
      have hx2d : x2.dead = true := by rw [← hx2]
      have hx23 : x2.revived = x3 := by rw [← hx2, ← hx3]; rfl
      have hx3d : x3.disk = (x.disk.crash keep).revive := by rw [← hx3]
      have hx4r : x4.recs = x.recs := by rw [← hx4]
      have hcm3 : x3.disk.made < 900000000 := by rw [hx3d]; exact hcm
      have hcm4 : x4.disk.made < 900000000 := by rw [← hx4]; exact hcm
      rw [hx3] at d1 d2 d3 d4
      rw [hx4] at o2 o3 hrm
      have K4 := fun W (h : LW w l b g m x2 W) => h.ldead
      have K5 := fun W (h : LW w l b g m x2 W) => h.revive
      have K6 := fun W (h : LW w l b g m x3 W) => h.append hcm3 xB (by decide)
      have K7 := fun W (h : LW w l b g m x3 W) => h.start hcm3 9 ⟨by decide, by decide⟩
      have K8 := fun W (h : LW w l b g m x3 W) => h.open_
      have K9 := fun t W (h : LW w t b g m x4 W) => h.records
      have K10 := fun t W (h : LW w t b g m x4 W) => h.room
      have K11 := fun t W (h : LW w t b g m x4 W) => h.append hcm4 xB (by decide)
      rw [hx2d] at K4
      rw [hx23] at K5
      rw [d1, d2] at K6
      rw [d3, d4] at K7
      rw [hx3d, o1, o2] at K8
      rw [hx4r] at K9
      obtain ⟨E, hE⟩ : ∃ E, x4.appE xB = E := ⟨_, rfl⟩
      obtain ⟨Rm, hR⟩ : ∃ Rm, x4.room = Rm := ⟨_, rfl⟩
      rw [hE] at K11 hrm
      rw [hR] at K10 hrm
      have hlen : x.recs.length ≤ 9223372036854775806 := by
        have h1 := HLW.out.ok.le
        have h2 := hgood.fits
        have hb : ∀ l : List ByteArray, l.length ≤ (recB l).length := fun l => by
          induction l with
          | nil => simp
          | cons r l ih => rw [recB_cons, List.length_append, List.length_append, length_leN, List.length_cons]; omega
        have h3 := hb x.recs
        unfold halfN at h2
        omega
      have HLen := Lib.hid hlen
      have hrm' : (E == 0) = decide ((3 : Int) ≤ Rm) := hrm
      generalize x.crashed keep = x1 at *
      generalize x4.app xB = x5 at *
      generalize hrl : x.recs = L at *
      have h120 : (⟨#[120]⟩ : ByteArray) = xB := rfl
      clear hw hlt hce hgood hgen e1 e2 hcm d1 d2 d3 d4 o1 o2 o3 hx2 hx3 hx4 hx2d hx23 hx3d hx4r hE hR HRm hrm hcm3 hcm4 hlen hrl
      rcases hlt' with ⟨h1, h2⟩ | h1
      · have hji : (j : Int) < (rs.length : Int) := by omega
        have hj2 : ¬ (j : Int) < 60 := by omega
        clear h1 h2
        go_wp2_with fail
        refine (K1 _ HLW.out).mono ?_
        rintro e w2 ⟨ka, kc, rfl, ho2, h2, _⟩
        have H2 := Lib.hid h2
        have HO2 := Lib.hid ho2
        clear h2 ho2 K1
        go_wp2_with fail
        refine (K2 _ H2.out).mono ?_
        rintro e w3 ⟨rfl, h3, k3⟩
        have H3 := Lib.hid h3
        have HO3 := Lib.hid (k3.owns HO2.out (by decide) (by decide) (by decide))
        clear h3 k3 K2
        go_wp2_with fail
        refine (K3 _ H3.out).mono ?_
        rintro e w4 ⟨rfl, h4, k4⟩
        have H4 := Lib.hid h4
        have HO4 := Lib.hid (k4.owns HO3.out (by decide) (by decide) (by decide))
        clear h4 k4 K3
        go_wp2_with fail
        refine (K4 _ H4.out).mono ?_
        rintro e w' ⟨rfl, rfl⟩
        go_wp2_with fail
        refine (K5 _ H4.out).mono ?_
        rintro e w5 ⟨rfl, h5, k5⟩
        have H5 := Lib.hid h5
        have HO5 := Lib.hid (k5.owns HO4.out (by decide) (by decide) (by decide))
        clear h5 k5 K4 K5
        go_wp2_with fail
        refine (K6 _ H5.out).mono ?_
        rintro e w6 ⟨rfl, h6, k6⟩
        have H6 := Lib.hid h6
        have HO6 := Lib.hid (k6.owns HO5.out (by decide) (by decide) (by decide))
        clear h6 k6 K6
        go_wp2_with fail
        refine (K7 _ H6.out).mono ?_
        rintro e w7 ⟨rfl, h7, k7⟩
        have H7 := Lib.hid h7
        have HO7 := Lib.hid (k7.owns HO6.out (by decide) (by decide) (by decide))
        clear h7 k7 K7
        go_wp2_with fail
        refine (K8 _ H7.out).mono ?_
        rintro e w8 ⟨p, rfl, hp, _, hB8⟩
        have hp' : ∃ t, p = some ⟨t, 0, none⟩ ∧ LW w t b g m x4 w8 := by
          rcases hp with ⟨_, t, e, h⟩ | ⟨e, _⟩
          · exact ⟨t, e, h⟩
          · exact absurd rfl e
        obtain ⟨t, rfl, h8⟩ := hp'
        have H8 := Lib.hid h8
        have HO8 := Lib.hid (owns_below HO7.out hB8)
        clear hp h8 hB8 K8
        go_wp2_with fail
        refine (K9 _ _ H8.out).mono ?_
        rintro e w9 ⟨ja, jc, rfl, ho9, h9, hB9⟩
        have CSm := rsame_any (texts_of_row ho9) (texts_of_row (owns_below HO8.out hB9)) HLen.out (by have := HLen.out; omega)
        rw [decide_eq_true rfl] at CSm
        have H9 := Lib.hid h9
        clear ho9 h9 hB9 K9
        go_wp2_with fail
        refine CSm.mono ?_
        rintro e w10 ⟨rfl, hB10⟩
        have H10 := Lib.hid (H9.out.later hB10)
        clear hB10 CSm
        by_cases h3 : (3 : Int) ≤ Rm
        · rw [decide_eq_true h3] at hrm'
          go_wp2_with fail
          refine (K10 _ _ H10.out).mono ?_
          rintro e w11 ⟨rfl, h11, _⟩
          have H11 := Lib.hid h11
          clear h11 K10
          go_wp2_with fail
          refine (K11 _ _ H11.out).mono ?_
          rintro e w12 ⟨rfl, h12, _⟩
          have H12 := Lib.hid h12
          clear h12 K11
          go_wp2_with fail
          refine (CF _).mono ?_
          rintro e w13 ⟨rfl, hB13⟩
          have HB13 := Lib.hid (H12.out.below.trans (hB13.mono H12.out.below.size))
          clear hB13
          go_wp2
          go_ret
          exact ⟨rfl, HB13.out⟩
        · rw [decide_eq_false h3] at hrm'
          go_wp2_with fail
          refine (K10 _ _ H10.out).mono ?_
          rintro e w11 ⟨rfl, h11, _⟩
          have H11 := Lib.hid h11
          clear h11 K10
          go_wp2_with fail
          refine (K11 _ _ H11.out).mono ?_
          rintro e w12 ⟨rfl, h12, _⟩
          have H12 := Lib.hid h12
          clear h12 K11
          go_wp2_with fail
          refine (CF _).mono ?_
          rintro e w13 ⟨rfl, hB13⟩
          have HB13 := Lib.hid (H12.out.below.trans (hB13.mono H12.out.below.size))
          clear hB13
          go_wp2
          go_ret
          exact ⟨(show Ending.returned (Value.bool (!decide ((3 : Int) ≤ Rm))) = _ by rw [decide_eq_false (show ¬ (3 : Int) ≤ Rm by omega)]; rfl), HB13.out⟩
      · have hji : ¬ (j : Int) < (rs.length : Int) := by omega
        clear h1
        go_wp2_with fail
        refine (K1 _ HLW.out).mono ?_
        rintro e w2 ⟨ka, kc, rfl, ho2, h2, _⟩
        have H2 := Lib.hid h2
        have HO2 := Lib.hid ho2
        clear h2 ho2 K1
        go_wp2_with fail
        refine (K2 _ H2.out).mono ?_
        rintro e w3 ⟨rfl, h3, k3⟩
        have H3 := Lib.hid h3
        have HO3 := Lib.hid (k3.owns HO2.out (by decide) (by decide) (by decide))
        clear h3 k3 K2
        go_wp2_with fail
        refine (K3 _ H3.out).mono ?_
        rintro e w4 ⟨rfl, h4, k4⟩
        have H4 := Lib.hid h4
        have HO4 := Lib.hid (k4.owns HO3.out (by decide) (by decide) (by decide))
        clear h4 k4 K3
        go_wp2_with fail
        refine (K4 _ H4.out).mono ?_
        rintro e w' ⟨rfl, rfl⟩
        go_wp2_with fail
        refine (K5 _ H4.out).mono ?_
        rintro e w5 ⟨rfl, h5, k5⟩
        have H5 := Lib.hid h5
        have HO5 := Lib.hid (k5.owns HO4.out (by decide) (by decide) (by decide))
        clear h5 k5 K4 K5
        go_wp2_with fail
        refine (K6 _ H5.out).mono ?_
        rintro e w6 ⟨rfl, h6, k6⟩
        have H6 := Lib.hid h6
        have HO6 := Lib.hid (k6.owns HO5.out (by decide) (by decide) (by decide))
        clear h6 k6 K6
        go_wp2_with fail
        refine (K7 _ H6.out).mono ?_
        rintro e w7 ⟨rfl, h7, k7⟩
        have H7 := Lib.hid h7
        have HO7 := Lib.hid (k7.owns HO6.out (by decide) (by decide) (by decide))
        clear h7 k7 K7
        go_wp2_with fail
        refine (K8 _ H7.out).mono ?_
        rintro e w8 ⟨p, rfl, hp, _, hB8⟩
        have hp' : ∃ t, p = some ⟨t, 0, none⟩ ∧ LW w t b g m x4 w8 := by
          rcases hp with ⟨_, t, e, h⟩ | ⟨e, _⟩
          · exact ⟨t, e, h⟩
          · exact absurd rfl e
        obtain ⟨t, rfl, h8⟩ := hp'
        have H8 := Lib.hid h8
        have HO8 := Lib.hid (owns_below HO7.out hB8)
        clear hp h8 hB8 K8
        go_wp2_with fail
        refine (K9 _ _ H8.out).mono ?_
        rintro e w9 ⟨ja, jc, rfl, ho9, h9, hB9⟩
        have CSm := rsame_any (texts_of_row ho9) (texts_of_row (owns_below HO8.out hB9)) HLen.out (by have := HLen.out; omega)
        rw [decide_eq_true rfl] at CSm
        have H9 := Lib.hid h9
        clear ho9 h9 hB9 K9
        go_wp2_with fail
        refine CSm.mono ?_
        rintro e w10 ⟨rfl, hB10⟩
        have H10 := Lib.hid (H9.out.later hB10)
        clear hB10 CSm
        by_cases h3 : (3 : Int) ≤ Rm
        · rw [decide_eq_true h3] at hrm'
          go_wp2_with fail
          refine (K10 _ _ H10.out).mono ?_
          rintro e w11 ⟨rfl, h11, _⟩
          have H11 := Lib.hid h11
          clear h11 K10
          go_wp2_with fail
          refine (K11 _ _ H11.out).mono ?_
          rintro e w12 ⟨rfl, h12, _⟩
          have H12 := Lib.hid h12
          clear h12 K11
          go_wp2_with fail
          refine (CF _).mono ?_
          rintro e w13 ⟨rfl, hB13⟩
          have HB13 := Lib.hid (H12.out.below.trans (hB13.mono H12.out.below.size))
          clear hB13
          go_wp2
          go_ret
          exact ⟨rfl, HB13.out⟩
        · rw [decide_eq_false h3] at hrm'
          go_wp2_with fail
          refine (K10 _ _ H10.out).mono ?_
          rintro e w11 ⟨rfl, h11, _⟩
          have H11 := Lib.hid h11
          clear h11 K10
          go_wp2_with fail
          refine (K11 _ _ H11.out).mono ?_
          rintro e w12 ⟨rfl, h12, _⟩
          have H12 := Lib.hid h12
          clear h12 K11
          go_wp2_with fail
          refine (CF _).mono ?_
          rintro e w13 ⟨rfl, hB13⟩
          have HB13 := Lib.hid (H12.out.below.trans (hB13.mono H12.out.below.size))
          clear hB13
          go_wp2
          go_ret
          exact ⟨(show Ending.returned (Value.bool (!decide ((3 : Int) ≤ Rm))) = _ by rw [decide_eq_false (show ¬ (3 : Int) ≤ Rm by omega)]; rfl), HB13.out⟩
set_option maxRecDepth 100000 in
/-- WHAT THE WALK GIVES, for every argument that can be read. -/
theorem contract (H : Type) (enc : TypeId × Value → H) (W : World) (base : Nat) (args : Array Value) (ds gs : List (DataW H)) (before : List MemPlace)
    (hval : ∀ (j : Nat) t v, Try.f7.params[j]? = some t → args[j]? = some v → Value.okWide Try.prog W .any base t v)
    (hW : DataW.Whole enc Try.prog Try.f7.params.toList Rows.logDiesSpec.vars false W args.toList ds gs before)
    (hreach : (DataW.weightsEach Try.prog (Try.f7.params.toList) ds).all (· ≤ reachBytes) = true) :
    Calls Try.prog 7 args W fun e W' => ∃ v, e = .returned v ∧ Rows.logDiesSpec.post enc Try.prog Try.f7 false true false false W args v W' := by
  have hW' := hW
  obtain ⟨p, q, hA0, hV, rfl, hfz, hnd⟩ := hW
  have hA : DataW.TrodAll enc Try.prog W 0 (fun _ => true) true Try.f7.params.toList args.toList ds p := hA0
  rw [Try.params7] at hA hval hreach
  obtain ⟨v0, v1, d0, d1, p0, p1, rfl, rfl, rfl, h0, h1⟩ := trodAll_two hA
  obtain ⟨rfl, rfl⟩ := trodVars_none hV
  obtain ⟨s1, rfl, rfl, rfl, ws1⟩ := Go.ChangeMaps.open_string Try.underlying9 (hval 1 9 v1 rfl rfl) h1
  have r1 := reach_size (sized_string hreach (j := 1) rfl rfl)
  have lt0 : ∀ x ∈ p0, x.block < W.heap.size := fun x hx => hW'.lt x (by simp [hx])
  obtain ⟨l0, k0, r0⟩ := strs_open (hval 0 29 v0 rfl rfl) h0 lt0 hreach (j := 0) rfl rfl
  clear hA0 hval
  simp only [List.append_nil] at hW'
  refine (walk v0 l0 s1 W k0 r0 r1).mono fun e W' ⟨he, hB⟩ => ?_
  subst he
  exact ⟨_, rfl, post_of_below (pa := p0 ++ ([])) (pv := []) hW' (fun _ _ _ => trodAll_mk1 (shut_bool Try.underlying4 _)) (fun sp hsp => trodAll_mk2 (WideElems.Trod_stays laidOut (by kernel_rfl) (of_decide_eq_true (by kernel_rfl)) h0 (fun x hx => hB.same (lt0 x hx)) (fun x hx => hsp x (by simp [hx]))) (Go.ChangeMaps.shut_string Try.underlying9 ws1)) (fun _ _ => rfl) (by simp) hB (ok_one (by kernel_rfl) rfl (okWide_bool_mk Try.underlying4 _))⟩

theorem reads (os : Os) {H : Type} (enc : TypeId × Value → H) : ∃ places, DataW.whole enc Try.prog ((laidWorld os).forCall (fun _ _ => 0) ⟨#[], #[.slice none 0 0, .string ⟨#[]⟩], []⟩).memory Try.f7.params.toList Rows.logDiesSpec.vars false (#[.slice none 0 0, .string ⟨#[]⟩] : Array Value).toList 8 = some ([.nil, .lit (.string [])], [], places) :=
  ⟨[], by kernel_rfl⟩

set_option maxRecDepth 100000 in
theorem lifted (os : Os) (started : os.Started) (H : Type) (enc : TypeId × Value → H) (F : Stop.Interp) :
    ReturnsInHanded {} Try.checked os 7 .any ((OpenSpec.ofChange Rows.logDiesSpec).preRow enc Try.prog Try.f7 Rows.logDiesRow.domain false Rows.logDiesRow.laid) (((OpenSpec.ofChange Rows.logDiesSpec).at F).post enc Try.prog Try.f7 false true false false) := by
  obtain ⟨places, hx⟩ := reads os enc
  refine returnsInHanded_of_row (C := Try.checked) (s := OpenSpec.ofChange Rows.logDiesSpec) own started (by kernel_rfl) Try.func7
    (witness_row_at (enc := enc) (C := Try.checked) false (laidWorld os) #[.slice none 0 0, .string ⟨#[]⟩] rfl (by kernel_rfl) (by kernel_rfl) (by kernel_rfl)
      (OpenSpec.preRow_of_cond 8 hx (by kernel_rfl) (fun k hk => by cases hk) (by kernel_rfl) (laid_met os _))) ?_
  intro W base args ds gs before hval hW _ hcond hreach hL _ _
  obtain ⟨p, q, hA0, hV, hpq, hfz, hnd⟩ := id hW
  obtain ⟨rfl, _⟩ := trodVars_none hV
  rw [List.append_nil] at hreach
  exact contract H enc W base args ds [] before hval hW hreach

theorem said : Rows.LogDiesSaid :=
  OpenClaim.holds_of_cond 7 Try.f7 rfl rfl rfl rfl rfl rfl rfl ⟨rfl, rfl, rfl, rfl, rfl⟩ rfl rfl rfl rfl rfl (by kernel_rfl) Try.func7 (by kernel_rfl)
    (of_decide_eq_true (by kernel_rfl)) (by unfold Func.isWrapper; first | (rw [if_pos (by decide +kernel)]; kernel_rfl) | (rw [if_neg (by decide +kernel)]; exact ⟨rfl, rfl⟩))
    (fun os started H enc _ F => by rw [OpenClaim.pre_eq_preRow]; exact lifted os started H enc F)



end Go.Proofs.Ythnpdiopaeommaa.dies

