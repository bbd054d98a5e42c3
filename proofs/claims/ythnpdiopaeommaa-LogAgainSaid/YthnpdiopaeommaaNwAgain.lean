/-
  Opened again, and again, a log is what it was, and opening changes nothing: for every number of sectors and every list of calls, of which the first sixty are made.
  Conditions: none besides the row's own.
-/
import Derived.Test.YthnpdiopaeommaaNvQ
import Derived.Test.YthnpdiopaeommaaNvOps
import Derived.OwnWalk
namespace Go.Proofs.Ythnpdiopaeommaa.again
open Go.ChangeShapes Go.WideShapes Go.ChangeAt Go.RowKit Go

set_option maxRecDepth 100000 in
set_option maxHeartbeats 8000000 in
theorem walk (z : Int) (va : Value) (rs : List (Int × Int × ByteArray × ByteArray × Bool)) (w : World) (hz : IntOk z) (hOa : LOpsAt w va rs) (hza : LOpsOk rs) :
    Calls Try.prog 6 #[.int .i64 z, va] w fun r w' => r = .returned (.bool true) ∧ Below w.heap.size w w' := by
  obtain ⟨aa, capa, rfl, ha⟩ := hOa
  have HA := Lib.hid ha
  have HZ := Lib.hid hza
  have hza1 := hza.1
  have CL := laid_log z 0 hz ⟨by decide, by decide⟩ w
  have CF := fun w => fixed7_any w
  clear ha hza
  go_enter Try.func6, Try.ntmps6
  go_wp2_with fail
  refine CL.mono ?_
  rintro e w1 ⟨b, g, m, r, n, a, a2, rfl, hl, hn⟩
  by_cases hE : formE (fresh (blank n)) 0 = 0
  · obtain ⟨l, q, rfl, rfl, h1⟩ := hl.lw hE
    have hc0 := calm_new (form_five hE) (by have := hl.le; omega)
    have H1 := Lib.hid h1
    have C0 := Lib.hid hc0
    clear hl hE h1 hc0 CL hn
    generalize (⟨(0 : Int).toNat, [], false, formD (fresh (blank n)) 0⟩ : LS) = x0 at *
    go_wp2
    go_loopw [10] (fun i wr => ∃ (j : Nat) (x : LS), j ≤ rs.length ∧ j ≤ 60 ∧ i = .int .i64 j ∧ LW w l b g m x wr ∧ Hid (Calm7 x (2 + 30 * j))) (fun i _ => rs.length - (intOf i).toNat)
    case atStart => exact ⟨0, x0, Nat.zero_le _, by omega, rfl, H1.out, Lib.hid C0.out⟩
    case round =>
      obtain ⟨j, x, hj, hj1, rfl, hw, HG⟩ := hrel
      clear H1 C0
      have HLW := Lib.hid hw
      have hmx : x.disk.made < 900000000 := by have := HG.out.made; omega
      by_cases hlt : j < rs.length ∧ j < 60
      · obtain ⟨hlt1, hlt2⟩ := hlt
        obtain ⟨bb, off, rfl, hb, hc⟩ := HA.out (by rintro rfl; simp at hlt1)
        have hji : (j : Int) < (rs.length : Int) := by omega
        have hj2 : (j : Int) < 60 := by omega
        obtain ⟨c0, c1, c2, _, _⟩ := hc j hlt1
        have hq := HZ.out.2 rs[j] (List.getElem_mem hlt1)
        have d0 := (hw.below.cell (p := ⟨bb, off + j * 5, none⟩) hb).trans c0
        have d1 := (hw.below.cell (p := ⟨bb, off + j * 5 + 1, none⟩) hb).trans c1
        have d2 := (hw.below.cell (p := ⟨bb, off + j * 5 + 2, none⟩) hb).trans c2
        generalize rs[j] = O at *
        obtain ⟨K, N, S, kp, bd⟩ := O
        simp only at d0 d1 d2 hq
        clear c0 c1 c2 hc hw hlt1
        by_cases hK : K = 1
        · subst hK
          have CA := fun W (h : LW w l b g m x W) => h.start hmx N hq.2.1
          have HN := Lib.hid (HG.out.start N)
          generalize x.start N = y at *
          generalize x.startE N = E at *
          go_wp2_with fail
          refine (CA _ HLW.out).mono ?_
          rintro e w7 ⟨rfl, h7, _⟩
          have H7 := Lib.hid h7
          clear h7 CA
          go_wp2
          go_roundw
          case rel => exact ⟨j + 1, y, by omega, by omega, by go_num, H7.out, Lib.hid ⟨HN.out.good, HN.out.arm, by have := HN.out.made; omega⟩⟩
          case measure => simp [intOf]; omega
        · have hKb : (K == 1) = false := beq_eq_false_iff_ne.2 hK
          have CA := fun W (h : LW w l b g m x W) => h.append hmx S (by omega)
          have HN := Lib.hid (HG.out.app S)
          generalize x.app S = y at *
          generalize x.appE S = E at *
          clear hK
          go_wp2_with fail
          refine (CA _ HLW.out).mono ?_
          rintro e w7 ⟨rfl, h7, _⟩
          have H7 := Lib.hid h7
          clear h7 CA
          go_wp2
          go_roundw
          case rel => exact ⟨j + 1, y, by omega, by omega, by go_num, H7.out, Lib.hid ⟨HN.out.good, HN.out.arm, by have := HN.out.made; omega⟩⟩
          case measure => simp [intOf]; omega
      · have hlt' : (j < rs.length ∧ ¬ j < 60) ∨ ¬ j < rs.length := by omega
        have hgood := HG.out.good
        obtain ⟨o1, o2⟩ := hgood.opens
        have K1 := fun W (h : LW w l b g m x W) => image_any h.disk
        have K8 := fun W (h : LW w l b g m x W) => h.open_
        have K2 := fun t W (h : LW w t b g m x W) => h.records
        have K3 := fun t W (h : LW w t b g m x W) => h.gen
        have K4 := fun t W (h : LW w t b g m x W) => h.room
        rw [o1, o2] at K8
        obtain ⟨Rm, hR⟩ : ∃ Rm, x.room = Rm := ⟨_, rfl⟩
        rw [hR] at K4
        have hlen : x.recs.length ≤ 9223372036854775806 := by
          have h1 := HLW.out.ok.le
          have h2 := hgood.fits
          have hb : ∀ l : List ByteArray, l.length ≤ (recB l).length := fun l => by
            induction l with
            | nil => simp
            | cons r l ih => rw [recB_cons, List.length_append, List.length_append, length_leN, List.length_cons]; omega
          have h3 := hb x.recs
          unfold halfN at h2
          omega
        have HLen := Lib.hid hlen
        have hne1 : ((x.gen : Int) != (x.gen : Int)) = false := by simp
        have hne2 : (Rm != Rm) = false := by simp
        obtain ⟨I, hI⟩ : ∃ I, img x.disk.stay = I := ⟨_, rfl⟩
        rw [hI] at K1
        have hne3 : (I.toList != I.toList) = false := by simp
        have hne4 : (I.toList == I.toList) = true := by simp
        clear hw hlt hgood o1 o2 hR hlen hI
        have hex : ((j : Int) < (rs.length : Int) ∧ ¬ (j : Int) < 60) ∨ ¬ (j : Int) < (rs.length : Int) := by omega
        clear hlt'
        rcases hex with ⟨hji, hj2⟩ | hji
        all_goals (
          go_wp2_with fail
          refine (K1 _ HLW.out).mono ?_
          rintro e w' ⟨rfl, rfl⟩
          go_wp2
          go_loopw [12] (fun i wx => ∃ p : Nat, p ≤ 3 ∧ i = .int .i64 p ∧ LW w l b g m x wx) (fun i _ => 3 - (intOf i).toNat)
          case atStart => exact ⟨0, by omega, rfl, HLW.out⟩
          case round =>
            obtain ⟨p, hp3, rfl, hwx⟩ := hrel
            have HX := Lib.hid hwx
            clear hwx
            by_cases hp : p < 3
            · have hpi : (p : Int) < 3 := by omega
              go_wp2_with fail
              refine (K8 _ HX.out).mono ?_
              rintro e w8 ⟨tp, rfl, hpp, h8, _⟩
              have hp' : ∃ t, tp = some ⟨t, 0, none⟩ ∧ LW w t b g m x w8 := by
                rcases hpp with ⟨_, t, e, h⟩ | ⟨e, _⟩
                · exact ⟨t, e, h⟩
                · exact absurd rfl e
              obtain ⟨t, rfl, ht8⟩ := hp'
              have H8 := Lib.hid h8
              have T8 := Lib.hid ht8
              clear hpp h8 ht8
              go_wp2_with fail
              refine (K2 _ _ T8.out).mono ?_
              rintro e w9 ⟨ja, jc, rfl, ho9, ht9, hB9⟩
              have T9 := Lib.hid ht9
              have H9 := Lib.hid (H8.out.later hB9)
              have HO9 := Lib.hid ho9
              clear ho9 ht9 hB9
              go_wp2_with fail
              refine (K2 _ _ H9.out).mono ?_
              rintro e w10 ⟨ka, kc, rfl, ho10, h10, hB10⟩
              have CSm := rsame_any (texts_of_row (owns_below HO9.out hB10)) (texts_of_row ho10) HLen.out (by have := HLen.out; omega)
              rw [decide_eq_true rfl] at CSm
              have H10 := Lib.hid h10
              have T10 := Lib.hid (T9.out.later hB10)
              clear ho10 h10 hB10
              go_wp2_with fail
              refine CSm.mono ?_
              rintro e w11 ⟨rfl, hB11⟩
              have H11 := Lib.hid (H10.out.later hB11)
              have T11 := Lib.hid (T10.out.later hB11)
              clear hB11 CSm
              go_wp2_with fail
              refine (K3 _ _ T11.out).mono ?_
              rintro e w' ⟨rfl, rfl⟩
              go_wp2_with fail
              refine (K3 _ _ H11.out).mono ?_
              rintro e w' ⟨rfl, rfl⟩
              go_wp2_with fail
              refine (K4 _ _ T11.out).mono ?_
              rintro e w12 ⟨rfl, _, hB12⟩
              have H12 := Lib.hid (H11.out.later hB12)
              clear hB12
              go_wp2_with fail
              refine (K4 _ _ H12.out).mono ?_
              rintro e w13 ⟨rfl, h13, _⟩
              have H13 := Lib.hid h13
              clear h13
              go_wp2_with fail
              refine (K1 _ H13.out).mono ?_
              rintro e w' ⟨rfl, rfl⟩
              go_wp2
              go_roundw
              case rel => exact ⟨p + 1, by omega, by go_num, H13.out⟩
              case measure => simp [intOf]; omega
            · have hpi : ¬ (p : Int) < 3 := by omega
              go_wp2_with fail
              refine (CF _).mono ?_
              rintro e w13 ⟨rfl, hB13⟩
              have HB13 := Lib.hid (HX.out.below.trans (hB13.mono HX.out.below.size))
              clear hB13
              go_wp2
              go_ret
              exact ⟨rfl, HB13.out⟩)
  · have hn1 : a = .pointer none := by
      rcases hl.log with ⟨e, _⟩ | ⟨_, e, _⟩
      · exact absurd e hE
      · exact e
    subst hn1
    have HB := Lib.hid hl.below
    clear hl hE CL
    go_wp2_with fail
    refine (CF _).mono ?_
    rintro e w2 ⟨rfl, hB2⟩
    have HB2 := Lib.hid (HB.out.trans (hB2.mono HB.out.size))
    clear hB2
    go_wp2
    go_ret
    exact ⟨rfl, HB2.out⟩
set_option maxRecDepth 100000 in
/-- WHAT THE WALK GIVES, for every argument that can be read. -/
theorem contract (H : Type) (enc : TypeId × Value → H) (W : World) (base : Nat) (args : Array Value) (ds gs : List (DataW H)) (before : List MemPlace)
    (hval : ∀ (j : Nat) t v, Try.f6.params[j]? = some t → args[j]? = some v → Value.okWide Try.prog W .any base t v)
    (hW : DataW.Whole enc Try.prog Try.f6.params.toList Rows.logAgainSpec.vars false W args.toList ds gs before)
    (hreach : (DataW.weightsEach Try.prog (Try.f6.params.toList) ds).all (· ≤ reachBytes) = true) :
    Calls Try.prog 6 args W fun e W' => ∃ v, e = .returned v ∧ Rows.logAgainSpec.post enc Try.prog Try.f6 false true false false W args v W' := by
  have hW' := hW
  obtain ⟨p, q, hA0, hV, rfl, hfz, hnd⟩ := hW
  have hA : DataW.TrodAll enc Try.prog W 0 (fun _ => true) true Try.f6.params.toList args.toList ds p := hA0
  rw [Try.params6] at hA hval hreach
  obtain ⟨v0, v1, d0, d1, p0, p1, rfl, rfl, rfl, h0, h1⟩ := trodAll_two hA
  obtain ⟨rfl, rfl⟩ := trodVars_none hV
  obtain ⟨n0, rfl, rfl, rfl, wn0⟩ := open_int Try.underlying3 (hval 0 3 v0 rfl rfl) h0
  have r0 := int_range wn0
  have lt1 : ∀ x ∈ p1, x.block < W.heap.size := fun x hx => hW'.lt x (by simp [hx])
  obtain ⟨l1, k1, r1⟩ := lops_open (hval 1 22 v1 rfl rfl) h1 lt1 hreach (j := 1) rfl rfl
  clear hA0 hval
  simp only [List.append_nil] at hW'
  refine (walk n0 v1 l1 W r0 k1 r1).mono fun e W' ⟨he, hB⟩ => ?_
  subst he
  exact ⟨_, rfl, post_of_below (pa := [] ++ (p1)) (pv := []) hW' (fun _ _ _ => trodAll_mk1 (shut_bool Try.underlying4 _)) (fun sp hsp => trodAll_mk2 (shut_int Try.underlying3 wn0) (WideElems.Trod_stays laidOut (by kernel_rfl) (of_decide_eq_true (by kernel_rfl)) h1 (fun x hx => hB.same (lt1 x hx)) (fun x hx => hsp x (by simp [hx])))) (fun _ _ => rfl) (by simp) hB (ok_one (by kernel_rfl) rfl (okWide_bool_mk Try.underlying4 _))⟩

theorem reads (os : Os) {H : Type} (enc : TypeId × Value → H) : ∃ places, DataW.whole enc Try.prog ((laidWorld os).forCall (fun _ _ => 0) ⟨#[], #[.int .i64 0, .slice none 0 0], []⟩).memory Try.f6.params.toList Rows.logAgainSpec.vars false (#[.int .i64 0, .slice none 0 0] : Array Value).toList 8 = some ([.lit (.int .i64 0), .nil], [], places) :=
  ⟨[], by kernel_rfl⟩

set_option maxRecDepth 100000 in
theorem lifted (os : Os) (started : os.Started) (H : Type) (enc : TypeId × Value → H) (F : Stop.Interp) :
    ReturnsInHanded {} Try.checked os 6 .any ((OpenSpec.ofChange Rows.logAgainSpec).preRow enc Try.prog Try.f6 Rows.logAgainRow.domain false Rows.logAgainRow.laid) (((OpenSpec.ofChange Rows.logAgainSpec).at F).post enc Try.prog Try.f6 false true false false) := by
  obtain ⟨places, hx⟩ := reads os enc
  refine returnsInHanded_of_row (C := Try.checked) (s := OpenSpec.ofChange Rows.logAgainSpec) own started (by kernel_rfl) Try.func6
    (witness_row_at (enc := enc) (C := Try.checked) false (laidWorld os) #[.int .i64 0, .slice none 0 0] rfl (by kernel_rfl) (by kernel_rfl) (by kernel_rfl)
      (OpenSpec.preRow_of_cond 8 hx (by kernel_rfl) (fun k hk => by cases hk) (by kernel_rfl) (laid_met os _))) ?_
  intro W base args ds gs before hval hW _ hcond hreach hL _ _
  obtain ⟨p, q, hA0, hV, hpq, hfz, hnd⟩ := id hW
  obtain ⟨rfl, _⟩ := trodVars_none hV
  rw [List.append_nil] at hreach
  exact contract H enc W base args ds [] before hval hW hreach

theorem said : Rows.LogAgainSaid :=
  OpenClaim.holds_of_cond 6 Try.f6 rfl rfl rfl rfl rfl rfl rfl ⟨rfl, rfl, rfl, rfl, rfl⟩ rfl rfl rfl rfl rfl (by kernel_rfl) Try.func6 (by kernel_rfl)
    (of_decide_eq_true (by kernel_rfl)) (by unfold Func.isWrapper; first | (rw [if_pos (by decide +kernel)]; kernel_rfl) | (rw [if_neg (by decide +kernel)]; exact ⟨rfl, rfl⟩))
    (fun os started H enc _ F => by rw [OpenClaim.pre_eq_preRow]; exact lifted os started H enc F)



end Go.Proofs.Ythnpdiopaeommaa.again

