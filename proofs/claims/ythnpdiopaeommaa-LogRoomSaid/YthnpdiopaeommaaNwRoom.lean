/-
  A record is taken just if there is room for it and two bytes more, then there is that much less, and what is refused changes nothing: for every number of sectors and every list of texts, of which the first hundred are appended.
  Conditions: none besides the row's own.
-/
import Derived.Test.YthnpdiopaeommaaNvP
import Derived.Test.YthnpdiopaeommaaKitS
import Derived.OwnWalk
namespace Go.Proofs.Ythnpdiopaeommaa.room
open Go.ChangeShapes Go.WideShapes Go.ChangeAt Go.RowKit Go

set_option maxRecDepth 100000 in
set_option maxHeartbeats 8000000 in
theorem walk (z : Int) (va : Value) (rs : List ByteArray) (w : World) (hz : IntOk z) (hOa : StrsAt w va rs) (hza : rs.length ≤ 140737488351232 ∧ ∀ s ∈ rs, s.size ≤ 140737488351232) :
    Calls Try.prog 5 #[.int .i64 z, va] w fun r w' => r = .returned (.bool true) ∧ Below w.heap.size w w' := by
  obtain ⟨aa, capa, rfl, ha⟩ := hOa
  have HA := Lib.hid ha
  have HZ := Lib.hid hza
  have hza1 := hza.1
  have CL := laid_log z 0 hz ⟨by decide, by decide⟩ w
  have CF := fun w => fixed7_any w
  clear ha hza
  go_enter Try.func5, Try.ntmps5
  go_wp2_with fail
  refine CL.mono ?_
  rintro e w1 ⟨b, g, m, r, n, a, a2, rfl, hl, hn⟩
  by_cases hE : formE (fresh (blank n)) 0 = 0
  · obtain ⟨l, q, rfl, rfl, h1⟩ := hl.lw hE
    obtain ⟨_, hg0, ha0, hm0, _⟩ := good_new (form_five hE) (by have := hl.le; omega)
    have H1 := Lib.hid h1
    have G0 := Lib.hid (And.intro hg0 (And.intro (show (⟨(0 : Int).toNat, [], false, formD (fresh (blank n)) 0⟩ : LS).disk.armed = 0 from ha0) (show (⟨(0 : Int).toNat, [], false, formD (fresh (blank n)) 0⟩ : LS).disk.made ≤ 2 from hm0)))
    have R0 := Lib.hid (show (⟨(0 : Int).toNat, [], false, formD (fresh (blank n)) 0⟩ : LS).recs = [] from rfl)
    clear hl hE h1 hg0 ha0 hm0 CL hn
    generalize (⟨(0 : Int).toNat, [], false, formD (fresh (blank n)) 0⟩ : LS) = x0 at *
    go_wp2
    go_loopw [10, 11] (fun mv i wr => ∃ (j : Nat) (x : LS), j ≤ rs.length ∧ j ≤ 100 ∧ i = .int .i64 j ∧ mv = .int .i64 x.recs.length ∧ x.recs.length ≤ j ∧ LW w l b g m x wr ∧ Hid (Good x ∧ x.disk.armed = 0 ∧ x.disk.made ≤ 2 + 30 * j)) (fun _ i _ => rs.length - (intOf i).toNat)
    case atStart => exact ⟨0, x0, Nat.zero_le _, by omega, rfl, by rw [R0.out]; rfl, by rw [R0.out]; exact Nat.le_refl _, H1.out, Lib.hid ⟨G0.out.1, G0.out.2.1, by have := G0.out.2.2; omega⟩⟩
    case round =>
      obtain ⟨j, x, hj, hj1, rfl, rfl, hrl, hw, HG⟩ := hrel
      clear H1 G0 R0
      have HLW := Lib.hid hw
      by_cases hlt : j < rs.length ∧ j < 100
      · obtain ⟨hlt1, hlt2⟩ := hlt
        obtain ⟨bb, off, rfl, hb, hc⟩ := HA.out (by rintro rfl; simp at hlt1)
        have hji : (j : Int) < (rs.length : Int) := by omega
        have hj2 : (j : Int) < 100 := by omega
        have hcw : ∀ W, Below w.heap.size w W → W.cell? ⟨bb, off + j, none⟩ = some (.string rs[j]) := fun W hB => (hB.cell (p := ⟨bb, off + j, none⟩) hb).trans (hc j hlt1)
        have hRs := HZ.out.2 rs[j] (List.getElem_mem hlt1)
        have hd := hw.later ((Below.refl _ wr).drew)
        have e0 := hcw _ hd.below
        have HD := Lib.hid hd
        have hmx : x.disk.made < 900000000 := by have := HG.out.2.2; omega
        have CR := fun W (h : LW w l b g m x W) => h.room
        have CT := fun W (h : LW w l b g m x W) => steps_any h.disk
        have CA := fun W (h : LW w l b g m x W) => h.append hmx rs[j] (by omega)
        have CY := fun W (h : LW w l b g m (x.app rs[j]) W) => h.room
        have CK := fun W (h : LW w l b g m (x.app rs[j]) W) => steps_any h.disk
        have HAp := Lib.hid (fun (h : x.takes rs[j]) => HG.out.1.app_calm HG.out.2.1 h)
        have HNo := Lib.hid (fun (h : ¬ x.takes rs[j]) => HG.out.1.app_no h)
        have HTk := Lib.hid (show x.takes rs[j] ↔ ((rs[j].size : Int) ≤ 1300 ∧ (rs[j].size : Int) + 2 ≤ x.room) by unfold LS.takes LS.room; omega)
        have HRy := Lib.hid (fun (e : (x.app rs[j]).recs = x.recs ++ [rs[j]]) => show (x.app rs[j]).room = x.room - (rs[j].size : Int) - 2 by unfold LS.room; rw [half_app, e, length_recB_snoc]; omega)
        have HMy := Lib.hid (made_app x rs[j])
        have hrm : -1048576 ≤ x.room ∧ x.room ≤ 1048576 := by
          have h1 := HG.out.1.fits
          have h2 := HLW.out.ok.le
          unfold LS.room halfN at *
          omega
        obtain ⟨hrm1, hrm2⟩ := hrm
        generalize rs[j] = R at *
        generalize hy : x.app R = y at *
        obtain ⟨Rm, hRm⟩ : ∃ Rm, x.room = Rm := ⟨_, rfl⟩
        rw [hRm] at CR hrm1 hrm2 HTk HRy
        clear hw hd hc hy hRm hlt1
        by_cases hT : x.takes R
        · obtain ⟨hS1, hS2⟩ := HTk.out.1 hT
          obtain ⟨q1, q2, q3, q4⟩ := HAp.out hT
          have q5 := HRy.out q2
          rw [q1] at CA
          rw [q5] at CY
          have HQ := Lib.hid (And.intro q2 (And.intro q3 q4))
          have hne : (Rm - (R.size : Int) - 2 != Rm - (R.size : Int) - 2) = false := by simp
          clear hT q1 q2 q3 q4 q5
          go_wp2_with fail
          go_region_held3 (fun w' => w'.cell? ⟨bb, off + j, none⟩ = some (.string R)) (first | exact e0 | exact e1)
            (first
              | (go_at_call 24; refine (CR _ HD.out).mono ?_; rintro e w5 ⟨rfl, h5, hB5⟩; have H5 := Lib.hid h5; have e1 := hcw _ h5.below; clear h5 hB5)
              | (go_at_call 23; refine (CT _ H5.out).mono ?_; rintro e w6 ⟨rfl, rfl⟩)
              | (go_at_call 23; refine (CT _ HD.out).mono ?_; rintro e w6 ⟨rfl, rfl⟩))
          all_goals (
            clear CT e0
            go_wp2_with fail
            refine (CA _ H5.out).mono ?_
            rintro e w7 ⟨rfl, h7, _⟩
            have H7 := Lib.hid h7
            clear h7 CA
            go_wp2_with fail
            refine (CY _ H7.out).mono ?_
            rintro e w8 ⟨rfl, h8, _⟩
            have H8 := Lib.hid h8
            clear h8 CY CR
            go_wp2
            go_roundw
            case rel => exact ⟨j + 1, y, by omega, by omega, by go_num, by rw [HQ.out.1, List.length_append]; rfl, by rw [HQ.out.1, List.length_append]; simp only [List.length_cons, List.length_nil]; omega, H8.out, Lib.hid ⟨HQ.out.2.1, HQ.out.2.2, by have := HMy.out; have := HG.out.2.2; omega⟩⟩
            case measure => simp [intOf]; omega)
        · obtain ⟨q1, q2, _⟩ := HNo.out hT
          have hF := fun h => hT (HTk.out.2 h)
          subst q1
          obtain ⟨E, hE⟩ : ∃ E, y.appE R = E := ⟨_, rfl⟩
          rw [hE] at CA q2
          have hEb : (E == 0) = false := beq_eq_false_iff_ne.2 q2
          have hne1 : ((y.disk.made : Int) != (y.disk.made : Int)) = false := by simp
          have hne2 : (Rm != Rm) = false := by simp
          have CY := CR
          clear hT q2 hE HAp HNo HTk HRy
          by_cases hS1 : (R.size : Int) ≤ 1300
          · have hS2 : ¬ (R.size : Int) + 2 ≤ Rm := fun h => hF ⟨hS1, h⟩
            clear hF
            go_wp2_with fail
            go_region_held3 (fun w' => w'.cell? ⟨bb, off + j, none⟩ = some (.string R)) (first | exact e0 | exact e1)
              (first
                | (go_at_call 24; refine (CR _ HD.out).mono ?_; rintro e w5 ⟨rfl, h5, hB5⟩; have H5 := Lib.hid h5; have e1 := hcw _ h5.below; clear h5 hB5)
                | (go_at_call 23; refine (CT _ H5.out).mono ?_; rintro e w6 ⟨rfl, rfl⟩)
                | (go_at_call 23; refine (CT _ HD.out).mono ?_; rintro e w6 ⟨rfl, rfl⟩))
            all_goals (
              clear CT e0
              go_wp2_with fail
              refine (CA _ H5.out).mono ?_
              rintro e w7 ⟨rfl, h7, _⟩
              have H7 := Lib.hid h7
              clear h7 CA
              go_wp2_with fail
              refine (CK _ H7.out).mono ?_
              rintro e w' ⟨rfl, rfl⟩
              go_wp2_with fail
              refine (CY _ H7.out).mono ?_
              rintro e w8 ⟨rfl, h8, _⟩
              have H8 := Lib.hid h8
              clear h8 CY CR CK
              go_wp2
              go_roundw
              case rel => exact ⟨j + 1, y, by omega, by omega, by go_num, rfl, by omega, H8.out, Lib.hid ⟨HG.out.1, HG.out.2.1, by have := HG.out.2.2; omega⟩⟩
              case measure => simp [intOf]; omega)
          · clear hF
            go_wp2_with fail
            go_region_held3 (fun w' => w'.cell? ⟨bb, off + j, none⟩ = some (.string R)) (first | exact e0 | exact e1)
              (first
                | (go_at_call 24; refine (CR _ HD.out).mono ?_; rintro e w5 ⟨rfl, h5, hB5⟩; have H5 := Lib.hid h5; have e1 := hcw _ h5.below; clear h5 hB5)
                | (go_at_call 23; refine (CT _ H5.out).mono ?_; rintro e w6 ⟨rfl, rfl⟩)
                | (go_at_call 23; refine (CT _ HD.out).mono ?_; rintro e w6 ⟨rfl, rfl⟩))
            all_goals (
              clear CT e0
              go_wp2_with fail
              refine (CA _ H5.out).mono ?_
              rintro e w7 ⟨rfl, h7, _⟩
              have H7 := Lib.hid h7
              clear h7 CA
              go_wp2_with fail
              refine (CK _ H7.out).mono ?_
              rintro e w' ⟨rfl, rfl⟩
              go_wp2_with fail
              refine (CY _ H7.out).mono ?_
              rintro e w8 ⟨rfl, h8, _⟩
              have H8 := Lib.hid h8
              clear h8 CY CR CK
              go_wp2
              go_roundw
              case rel => exact ⟨j + 1, y, by omega, by omega, by go_num, rfl, by omega, H8.out, Lib.hid ⟨HG.out.1, HG.out.2.1, by have := HG.out.2.2; omega⟩⟩
              case measure => simp [intOf]; omega)
      · have HS := Lib.hid hw
        have CR := fun W (h : LW w l b g m x W) => h.records
        have hlt' : (j < rs.length ∧ ¬ j < 100) ∨ ¬ j < rs.length := by omega
        have hnn : ((x.recs.length : Int) == (x.recs.length : Int)) = true := by simp
        clear hw hlt
        rcases hlt' with ⟨h1, h2⟩ | h1
        · have hji : (j : Int) < (rs.length : Int) := by omega
          have hj2 : ¬ (j : Int) < 100 := by omega
          go_wp2_with fail
          refine (CR _ HS.out).mono ?_
          rintro e w5 ⟨ka, kc, rfl, _, h5, _⟩
          have H5 := Lib.hid h5
          clear h5 CR
          go_wp2_with fail
          refine (CF _).mono ?_
          rintro e w6 ⟨rfl, hB6⟩
          have HB6 := Lib.hid (H5.out.below.trans (hB6.mono H5.out.below.size))
          clear hB6
          go_wp2
          go_ret
          exact ⟨rfl, HB6.out⟩
        · have hji : ¬ (j : Int) < (rs.length : Int) := by omega
          go_wp2_with fail
          refine (CR _ HS.out).mono ?_
          rintro e w5 ⟨ka, kc, rfl, _, h5, _⟩
          have H5 := Lib.hid h5
          clear h5 CR
          go_wp2_with fail
          refine (CF _).mono ?_
          rintro e w6 ⟨rfl, hB6⟩
          have HB6 := Lib.hid (H5.out.below.trans (hB6.mono H5.out.below.size))
          clear hB6
          go_wp2
          go_ret
          exact ⟨rfl, HB6.out⟩
  · have hn1 : a = .pointer none := by
      rcases hl.log with ⟨e, _⟩ | ⟨_, e, _⟩
      · exact absurd e hE
      · exact e
    subst hn1
    have HB := Lib.hid hl.below
    clear hl hE CL
    go_wp2_with fail
    refine (CF _).mono ?_
    rintro e w2 ⟨rfl, hB2⟩
    have HB2 := Lib.hid (HB.out.trans (hB2.mono HB.out.size))
    clear hB2
    go_wp2
    go_ret
    exact ⟨rfl, HB2.out⟩
set_option maxRecDepth 100000 in
/-- WHAT THE WALK GIVES, for every argument that can be read. -/
theorem contract (H : Type) (enc : TypeId × Value → H) (W : World) (base : Nat) (args : Array Value) (ds gs : List (DataW H)) (before : List MemPlace)
    (hval : ∀ (j : Nat) t v, Try.f5.params[j]? = some t → args[j]? = some v → Value.okWide Try.prog W .any base t v)
    (hW : DataW.Whole enc Try.prog Try.f5.params.toList Rows.logRoomSpec.vars false W args.toList ds gs before)
    (hreach : (DataW.weightsEach Try.prog (Try.f5.params.toList) ds).all (· ≤ reachBytes) = true) :
    Calls Try.prog 5 args W fun e W' => ∃ v, e = .returned v ∧ Rows.logRoomSpec.post enc Try.prog Try.f5 false true false false W args v W' := by
  have hW' := hW
  obtain ⟨p, q, hA0, hV, rfl, hfz, hnd⟩ := hW
  have hA : DataW.TrodAll enc Try.prog W 0 (fun _ => true) true Try.f5.params.toList args.toList ds p := hA0
  rw [Try.params5] at hA hval hreach
  obtain ⟨v0, v1, d0, d1, p0, p1, rfl, rfl, rfl, h0, h1⟩ := trodAll_two hA
  obtain ⟨rfl, rfl⟩ := trodVars_none hV
  obtain ⟨n0, rfl, rfl, rfl, wn0⟩ := open_int Try.underlying3 (hval 0 3 v0 rfl rfl) h0
  have r0 := int_range wn0
  have lt1 : ∀ x ∈ p1, x.block < W.heap.size := fun x hx => hW'.lt x (by simp [hx])
  obtain ⟨l1, k1, r1⟩ := strs_open (hval 1 29 v1 rfl rfl) h1 lt1 hreach (j := 1) rfl rfl
  clear hA0 hval
  simp only [List.append_nil] at hW'
  refine (walk n0 v1 l1 W r0 k1 r1).mono fun e W' ⟨he, hB⟩ => ?_
  subst he
  exact ⟨_, rfl, post_of_below (pa := [] ++ (p1)) (pv := []) hW' (fun _ _ _ => trodAll_mk1 (shut_bool Try.underlying4 _)) (fun sp hsp => trodAll_mk2 (shut_int Try.underlying3 wn0) (WideElems.Trod_stays laidOut (by kernel_rfl) (of_decide_eq_true (by kernel_rfl)) h1 (fun x hx => hB.same (lt1 x hx)) (fun x hx => hsp x (by simp [hx])))) (fun _ _ => rfl) (by simp) hB (ok_one (by kernel_rfl) rfl (okWide_bool_mk Try.underlying4 _))⟩

theorem reads (os : Os) {H : Type} (enc : TypeId × Value → H) : ∃ places, DataW.whole enc Try.prog ((laidWorld os).forCall (fun _ _ => 0) ⟨#[], #[.int .i64 0, .slice none 0 0], []⟩).memory Try.f5.params.toList Rows.logRoomSpec.vars false (#[.int .i64 0, .slice none 0 0] : Array Value).toList 8 = some ([.lit (.int .i64 0), .nil], [], places) :=
  ⟨[], by kernel_rfl⟩

set_option maxRecDepth 100000 in
theorem lifted (os : Os) (started : os.Started) (H : Type) (enc : TypeId × Value → H) (F : Stop.Interp) :
    ReturnsInHanded {} Try.checked os 5 .any ((OpenSpec.ofChange Rows.logRoomSpec).preRow enc Try.prog Try.f5 Rows.logRoomRow.domain false Rows.logRoomRow.laid) (((OpenSpec.ofChange Rows.logRoomSpec).at F).post enc Try.prog Try.f5 false true false false) := by
  obtain ⟨places, hx⟩ := reads os enc
  refine returnsInHanded_of_row (C := Try.checked) (s := OpenSpec.ofChange Rows.logRoomSpec) own started (by kernel_rfl) Try.func5
    (witness_row_at (enc := enc) (C := Try.checked) false (laidWorld os) #[.int .i64 0, .slice none 0 0] rfl (by kernel_rfl) (by kernel_rfl) (by kernel_rfl)
      (OpenSpec.preRow_of_cond 8 hx (by kernel_rfl) (fun k hk => by cases hk) (by kernel_rfl) (laid_met os _))) ?_
  intro W base args ds gs before hval hW _ hcond hreach hL _ _
  obtain ⟨p, q, hA0, hV, hpq, hfz, hnd⟩ := id hW
  obtain ⟨rfl, _⟩ := trodVars_none hV
  rw [List.append_nil] at hreach
  exact contract H enc W base args ds [] before hval hW hreach

theorem said : Rows.LogRoomSaid :=
  OpenClaim.holds_of_cond 5 Try.f5 rfl rfl rfl rfl rfl rfl rfl ⟨rfl, rfl, rfl, rfl, rfl⟩ rfl rfl rfl rfl rfl (by kernel_rfl) Try.func5 (by kernel_rfl)
    (of_decide_eq_true (by kernel_rfl)) (by unfold Func.isWrapper; first | (rw [if_pos (by decide +kernel)]; kernel_rfl) | (rw [if_neg (by decide +kernel)]; exact ⟨rfl, rfl⟩))
    (fun os started H enc _ F => by rw [OpenClaim.pre_eq_preRow]; exact lifted os started H enc F)



end Go.Proofs.Ythnpdiopaeommaa.room

