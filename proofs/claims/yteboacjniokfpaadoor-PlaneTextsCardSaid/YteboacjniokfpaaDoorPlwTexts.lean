/-
  The map of a map's text has the same planes, and goes on by itself: for every number of blocks (cut to 8 to 300) and every list of calls, of which the first sixty are made.
  Conditions: none besides the row's own.
-/
import Derived.Test.YteboacjniokfpaaDoorPlnG
import Derived.Test.YteboacjniokfpaaDoorPlnOps
namespace Go.Proofs.YteboacjniokfpaaDoor.texts
open Go.ChangeShapes Go.WideShapes Go.ChangeAt Go.RowKit Go SM PL

/-- two maps -/
structure Two (w0 : World) (q n : Nat) (f : Nat → List UInt8) (r m : Nat) (g : Nat → List UInt8) (w : World) : Prop where
  one : ML w0 q n f w
  two : ML w0 r m g w
  ne : q ≠ r
theorem Two.later {w0 : World} {q n r m : Nat} {f g : Nat → List UInt8} {w w' : World} (h : Two w0 q n f r m g w) (k : Below w.heap.size w w') : Two w0 q n f r m g w' := ⟨h.one.later k, h.two.later k, h.ne⟩
theorem Two.step {w0 : World} {q n r m : Nat} {f g g' : Nat → List UInt8} {w w' : World} (h : Two w0 q n f r m g w) (k : MapAt r m g' w') (s : Stir (· = r) w w') : Two w0 q n f r m g' w' :=
  ⟨⟨h.one.at_.stay s h.ne, h.one.low, (h.two.step k s).below⟩, h.two.step k s, h.ne⟩
theorem Two.below {w0 : World} {q n r m : Nat} {f g : Nat → List UInt8} {w : World} (h : Two w0 q n f r m g w) : Below w0.heap.size w0 w := h.one.below
set_option maxRecDepth 100000 in
set_option maxHeartbeats 8000000 in
theorem walk (z : Int) (va : Value) (l : List (Int × Int × Int × ByteArray)) (w : World) (_hz : -9223372036854775808 ≤ z ∧ z ≤ 9223372036854775807) (hO : OpsAt w va l) (hzl : OpsOk l) :
    Calls Tryd.prog 7 #[.int .i64 z, va] w fun r w' => r = .returned (.bool true) ∧ Below w.heap.size w w' := by
  obtain ⟨aa, capa, rfl, ha⟩ := hO
  have HA := Lib.hid ha
  have HZ := Lib.hid hzl
  have hz1 := hzl.1
  clear ha hzl
  go_enter Tryd.func7, Tryd.ntmps7
  go_wp2_with fail
  refine (bound_any _ _).mono ?_
  rintro e w0 ⟨n, rfl, rfl, hn1, hn2, hnz⟩
  have HNZ := Lib.hid hnz
  clear hnz
  go_wp2_with fail
  refine (ml_new n hn1 hn2 w w (Below.refl _ _)).mono ?_
  rintro e w1 ⟨q, rfl, h⟩
  have H1 := Lib.hid h
  clear h
  have H1' := H1
  clear H1
  go_wp2
  go_loopw [7] (fun i wr => ∃ (j : Nat) (f : Nat → List UInt8), j ≤ l.length ∧ j ≤ 60 ∧ i = .int .i64 j ∧ Hid (ML w q n f wr)) (fun i _ => l.length - (intOf i).toNat)
  case atStart => exact ⟨0, _, Nat.zero_le _, by omega, rfl, H1'⟩
  case round =>
    clear H1'
    obtain ⟨j, f, hj, hj1, rfl, H⟩ := hrel
    by_cases hlt : j < l.length ∧ j < 60
    · obtain ⟨hlt1, hlt2⟩ := hlt
      obtain ⟨bb, off, rfl, hb, hc⟩ := HA.out (by rintro rfl; simp at hlt1)
      have hji : (j : Int) < (l.length : Int) := by omega
      have hj2 : (j : Int) < 60 := by omega
      obtain ⟨-, c1, -, c3⟩ := hc j hlt1
      have d1 := (H.out.below.cell (p := ⟨bb, off + j * 4 + 1, none⟩) hb).trans c1
      have d3 := (H.out.below.cell (p := ⟨bb, off + j * 4 + 3, none⟩) hb).trans c3
      have HCell := Lib.hid (fun (W : World) (k : Below w.heap.size w W) => And.intro ((k.cell (p := ⟨bb, off + j * 4 + 1, none⟩) hb).trans c1) ((k.cell (p := ⟨bb, off + j * 4 + 3, none⟩) hb).trans c3))
      obtain ⟨-, hP, -, hS⟩ := HZ.out.2 l[j] (List.getElem_mem hlt1)
      generalize l[j].2.1 = P at *
      generalize l[j].2.2.2 = S at *
      have KP := fun W (h : ML w q n f W) => h.put P hP.1 hP.2 S (by omega)
      generalize putE n P S.data.toList = E at *
      generalize putF n f P S.data.toList = G at *
      clear hc c1 c3 hP hS hlt1 hlt2
      go_wp2_with fail
      go_region_held3 (fun w' => w'.cell? ⟨bb, off + j * 4 + 1, none⟩ = some (.int .i64 P) ∧ w'.cell? ⟨bb, off + j * 4 + 3, none⟩ = some (.string S)) (first | exact ⟨d1, d3⟩ | exact e13)
        (first | (go_at_call 17; refine (KP _ (H.out.later (Below.refl _ _).drew)).mono ?_; rintro e w2 ⟨rfl, h⟩; have e13 := HCell.out w2 h.below; have H2 := Lib.hid h; clear h))
      go_wp2
      go_roundw
      case rel => exact ⟨j + 1, G, by omega, by omega, by go_num, H2⟩
      case measure => simp [intOf]; omega
    · have hstop : ¬ (j : Int) < (l.length : Int) ∨ ¬ (j : Int) < 60 := by omega
      clear hlt
      have hok := H.out.ok
      have hlen := length_textL n f
      have CT := fun W (h : ML w q n f W) => h.text
      have CP := fun W => parse_any (bs (textL n f)) (by rw [bs_size, hlen]; omega) W
      have hPar : Parses (bs (textL n f)) := ⟨by rw [bs_size, hlen]; exact hok.lo, by rw [bs_size, hlen]; exact hok.hi, by rw [bs_list]; exact text_head hok⟩
      have hss : (bs (textL n f)).size = n := by rw [bs_size, hlen]
      have hpl : ∀ p, p < 8 → planeOf (bs (textL n f)).data.toList p = f p := fun p hp => by rw [bs_list]; exact planeOf_text hok hp
      have HPar := Lib.hid hPar
      have HPl := Lib.hid hpl
      clear hPar hpl hlen hok
      unfold PAns at CP
      generalize bs (textL n f) = T at *
      generalize planeOf T.data.toList = g at *
      have q1 := eq_self T
      have HSS := Lib.hid hss
      have nn : ((n : Int) != (n : Int)) = false := by simp
      clear hss
      have hcase : ((j : Int) < (l.length : Int) ∧ ¬ (j : Int) < 60) ∨ ¬ (j : Int) < (l.length : Int) := by omega
      clear hstop
      have hstop := trivial
      rcases hcase with ⟨t1, t2⟩ | t1
      · as_aux_lemma =>
          go_wp2_with fail
          refine (CT _ H.out).mono ?_
          rintro e w2 ⟨rfl, h⟩
          have H2 := Lib.hid h
          clear h
          go_wp2_with fail
          refine (CP _).mono ?_
          rintro e w3 ⟨hB3, hc⟩
          obtain ⟨r, rfl, hr1, hr2⟩ : ∃ r, e = .returned (.tuple #[.pointer (some ⟨r, 0, none⟩), .int .i64 0]) ∧ w2.heap.size ≤ r ∧ MapAt r T.size g w3 := by
            rcases hc with ⟨_, q, e1, hq, h⟩ | ⟨hn, _⟩
            · exact ⟨q, e1, hq, h⟩
            · exact absurd HPar.out hn
          rw [HSS.out] at hr2
          have H3 := Lib.hid (show Two w q n f r n g w3 from ⟨H2.out.later hB3, ⟨hr2, Nat.le_trans H2.out.below.size hr1, (H2.out.later hB3).below⟩, by have := H2.out.at_.lt; omega⟩)
          clear hB3 hc hr1 hr2 CP
          have hsz : ((T.size : Int) != (n : Int)) = false := by rw [HSS.out]; simp
          go_wp2_with fail
          refine (H3.out.one.blocks).mono ?_
          rintro e w' ⟨rfl, rfl⟩
          have HX := Lib.hid (And.intro hj hj1)
          clear H H2 hstop
          have Kq := fun p (hp : p < 8) W (h : Two w q n f r n g W) => And.intro (h.one.plane hp) (h.two.plane hp)
          have K0 : ∀ W, Two w q n f r n g W → Calls Tryd.prog 21 #[.pointer (some ⟨r, 0, none⟩), .int .i64 0] W fun e w' => ∃ c, e = .returned (.int .i64 c) ∧ Two w q n f r n (putF n g 0 []) w' := fun W h => (clear_any r n g 0 (by omega) (by omega) W h.two.at_).mono fun _ _ k => ⟨_, k.1, h.step k.2.1 k.2.2⟩
          have K1 : ∀ W, Two w q n f r n (putF n g 0 []) W → Calls Tryd.prog 17 #[.pointer (some ⟨r, 0, none⟩), .int .i64 1, .string ⟨#[2]⟩] W fun e w' => ∃ c, e = .returned (.int .i64 c) ∧ Two w q n f r n (putF n (putF n g 0 []) 1 [2]) w' := fun W h => (put_any r n (putF n g 0 []) 1 (by omega) (by omega) ⟨#[2]⟩ (by decide) W h.two.at_).mono fun _ _ k => ⟨_, k.1, h.step k.2.1 k.2.2⟩
          generalize putF n (putF n g 0 []) 1 [2] = g2 at *
          generalize putF n g 0 [] = g1 at *
          have K2 := fun W (h : Two w q n f r n g2 W) => (CT W h.one).mono fun _ _ k => And.intro k.1 k.2
          go_wp2
          clear hsz
          go_loopw [11] (fun i wr => ∃ k : Nat, k ≤ 8 ∧ i = .int .i64 k ∧ Hid (Two w q n f r n g wr)) (fun i _ => 8 - (intOf i).toNat)
          case atStart => exact ⟨0, by omega, rfl, H3⟩
          case round =>
            clear H3
            obtain ⟨k, hk, rfl, H⟩ := hrel
            by_cases hlt : k < 8
            · have hki : (k : Int) < 8 := by omega
              have Kk := Kq k hlt
              rw [HPl.out k hlt] at Kk
              clear Kq
              generalize bs (f k) = A at *
              have q2 := ne_self A
              go_wp2_with fail
              refine (Kk _ H.out).1.mono ?_
              rintro e w' ⟨rfl, rfl⟩
              go_wp2_with fail
              refine (Kk _ H.out).2.mono ?_
              rintro e w' ⟨rfl, rfl⟩
              go_wp2
              go_roundw
              case rel => exact ⟨k + 1, by omega, by go_num, H⟩
              case measure => simp [intOf]; omega
            · obtain rfl : k = 8 := by omega
              clear Kq
              go_wp2_with fail
              refine (K0 _ H.out).mono ?_
              rintro e w4 ⟨c0, rfl, h4⟩
              have H4 := Lib.hid h4
              clear h4
              go_wp2_with fail
              refine (K1 _ H4.out).mono ?_
              rintro e w5 ⟨c1, rfl, h5⟩
              have H5 := Lib.hid h5
              clear h5
              go_wp2_with fail
              refine (K2 _ H5.out).mono ?_
              rintro e w6 ⟨rfl, h6⟩
              have H6 := Lib.hid h6
              clear h6
              go_wp2_with fail
              refine H6.out.fixed.mono ?_
              rintro e w7 ⟨rfl, h7⟩
              go_wp2
              go_ret
              exact ⟨rfl, h7.below⟩
      · as_aux_lemma =>
          go_wp2_with fail
          refine (CT _ H.out).mono ?_
          rintro e w2 ⟨rfl, h⟩
          have H2 := Lib.hid h
          clear h
          go_wp2_with fail
          refine (CP _).mono ?_
          rintro e w3 ⟨hB3, hc⟩
          obtain ⟨r, rfl, hr1, hr2⟩ : ∃ r, e = .returned (.tuple #[.pointer (some ⟨r, 0, none⟩), .int .i64 0]) ∧ w2.heap.size ≤ r ∧ MapAt r T.size g w3 := by
            rcases hc with ⟨_, q, e1, hq, h⟩ | ⟨hn, _⟩
            · exact ⟨q, e1, hq, h⟩
            · exact absurd HPar.out hn
          rw [HSS.out] at hr2
          have H3 := Lib.hid (show Two w q n f r n g w3 from ⟨H2.out.later hB3, ⟨hr2, Nat.le_trans H2.out.below.size hr1, (H2.out.later hB3).below⟩, by have := H2.out.at_.lt; omega⟩)
          clear hB3 hc hr1 hr2 CP
          have hsz : ((T.size : Int) != (n : Int)) = false := by rw [HSS.out]; simp
          go_wp2_with fail
          refine (H3.out.one.blocks).mono ?_
          rintro e w' ⟨rfl, rfl⟩
          have HX := Lib.hid (And.intro hj hj1)
          clear H H2 hstop
          have Kq := fun p (hp : p < 8) W (h : Two w q n f r n g W) => And.intro (h.one.plane hp) (h.two.plane hp)
          have K0 : ∀ W, Two w q n f r n g W → Calls Tryd.prog 21 #[.pointer (some ⟨r, 0, none⟩), .int .i64 0] W fun e w' => ∃ c, e = .returned (.int .i64 c) ∧ Two w q n f r n (putF n g 0 []) w' := fun W h => (clear_any r n g 0 (by omega) (by omega) W h.two.at_).mono fun _ _ k => ⟨_, k.1, h.step k.2.1 k.2.2⟩
          have K1 : ∀ W, Two w q n f r n (putF n g 0 []) W → Calls Tryd.prog 17 #[.pointer (some ⟨r, 0, none⟩), .int .i64 1, .string ⟨#[2]⟩] W fun e w' => ∃ c, e = .returned (.int .i64 c) ∧ Two w q n f r n (putF n (putF n g 0 []) 1 [2]) w' := fun W h => (put_any r n (putF n g 0 []) 1 (by omega) (by omega) ⟨#[2]⟩ (by decide) W h.two.at_).mono fun _ _ k => ⟨_, k.1, h.step k.2.1 k.2.2⟩
          generalize putF n (putF n g 0 []) 1 [2] = g2 at *
          generalize putF n g 0 [] = g1 at *
          have K2 := fun W (h : Two w q n f r n g2 W) => (CT W h.one).mono fun _ _ k => And.intro k.1 k.2
          go_wp2
          clear hsz
          go_loopw [11] (fun i wr => ∃ k : Nat, k ≤ 8 ∧ i = .int .i64 k ∧ Hid (Two w q n f r n g wr)) (fun i _ => 8 - (intOf i).toNat)
          case atStart => exact ⟨0, by omega, rfl, H3⟩
          case round =>
            clear H3
            obtain ⟨k, hk, rfl, H⟩ := hrel
            by_cases hlt : k < 8
            · have hki : (k : Int) < 8 := by omega
              have Kk := Kq k hlt
              rw [HPl.out k hlt] at Kk
              clear Kq
              generalize bs (f k) = A at *
              have q2 := ne_self A
              go_wp2_with fail
              refine (Kk _ H.out).1.mono ?_
              rintro e w' ⟨rfl, rfl⟩
              go_wp2_with fail
              refine (Kk _ H.out).2.mono ?_
              rintro e w' ⟨rfl, rfl⟩
              go_wp2
              go_roundw
              case rel => exact ⟨k + 1, by omega, by go_num, H⟩
              case measure => simp [intOf]; omega
            · obtain rfl : k = 8 := by omega
              clear Kq
              go_wp2_with fail
              refine (K0 _ H.out).mono ?_
              rintro e w4 ⟨c0, rfl, h4⟩
              have H4 := Lib.hid h4
              clear h4
              go_wp2_with fail
              refine (K1 _ H4.out).mono ?_
              rintro e w5 ⟨c1, rfl, h5⟩
              have H5 := Lib.hid h5
              clear h5
              go_wp2_with fail
              refine (K2 _ H5.out).mono ?_
              rintro e w6 ⟨rfl, h6⟩
              have H6 := Lib.hid h6
              clear h6
              go_wp2_with fail
              refine H6.out.fixed.mono ?_
              rintro e w7 ⟨rfl, h7⟩
              go_wp2
              go_ret
              exact ⟨rfl, h7.below⟩

set_option maxRecDepth 100000 in
/-- WHAT THE WALK GIVES, for every argument that can be read. -/
theorem contract (H : Type) (enc : TypeId × Value → H) (W : World) (base : Nat) (args : Array Value) (ds gs : List (DataW H)) (before : List MemPlace)
    (hval : ∀ (j : Nat) t v, Tryd.f7.params[j]? = some t → args[j]? = some v → Value.okWide Tryd.prog W .any base t v)
    (hW : DataW.Whole enc Tryd.prog Tryd.f7.params.toList Rows.planeTextsSpec.vars false W args.toList ds gs before)
    (hreach : (DataW.weightsEach Tryd.prog (Tryd.f7.params.toList) ds).all (· ≤ reachBytes) = true) :
    Calls Tryd.prog 7 args W fun e W' => ∃ v, e = .returned v ∧ Rows.planeTextsSpec.post enc Tryd.prog Tryd.f7 false true false false W args v W' := by
  have hW' := hW
  obtain ⟨p, q, hA0, hV, rfl, hfz, hnd⟩ := hW
  have hA : DataW.TrodAll enc Tryd.prog W 0 (fun _ => true) true Tryd.f7.params.toList args.toList ds p := hA0
  rw [Tryd.params7] at hA hval hreach
  obtain ⟨v0, v1, d0, d1, p0, p1, rfl, rfl, rfl, h0, h1⟩ := trodAll_two hA
  obtain ⟨rfl, rfl⟩ := trodVars_none hV
  obtain ⟨n0, rfl, rfl, rfl, wn0⟩ := open_int Tryd.underlying3 (hval 0 3 v0 rfl rfl) h0
  have r0 := int_range wn0
  have lt1 : ∀ x ∈ p1, x.block < W.heap.size := fun x hx => hW'.lt x (by simp [hx])
  obtain ⟨l1, k1, r1⟩ := ops_open (hval 1 36 v1 rfl rfl) h1 lt1 hreach (j := 1) rfl rfl
  clear hA0 hval
  simp only [List.append_nil] at hW'
  refine (walk n0 v1 l1 W r0 k1 r1).mono fun e W' ⟨he, hB⟩ => ?_
  subst he
  exact ⟨_, rfl, post_of_below (pa := [] ++ (p1)) (pv := []) hW' (fun _ _ _ => trodAll_mk1 (shut_bool Tryd.underlying4 _)) (fun sp hsp => trodAll_mk2 (shut_int Tryd.underlying3 wn0) (WideElems.Trod_stays laidOut (by kernel_rfl) (of_decide_eq_true (by kernel_rfl)) h1 (fun x hx => hB.same (lt1 x hx)) (fun x hx => hsp x (by simp [hx])))) (fun _ _ => rfl) (by simp) hB (ok_one (by kernel_rfl) rfl (okWide_bool_mk Tryd.underlying4 _))⟩

theorem reads (os : Os) {H : Type} (enc : TypeId × Value → H) : ∃ places, DataW.whole enc Tryd.prog ((laidWorld os).forCall (fun _ _ => 0) ⟨#[], #[.int .i64 0, .slice none 0 0], []⟩).memory Tryd.f7.params.toList Rows.planeTextsSpec.vars false (#[.int .i64 0, .slice none 0 0] : Array Value).toList 8 = some ([.lit (.int .i64 0), .nil], [], places) :=
  ⟨[], by kernel_rfl⟩

set_option maxRecDepth 100000 in
theorem lifted (os : Os) (started : os.Started) (H : Type) (enc : TypeId × Value → H) (F : Stop.Interp) :
    ReturnsInHanded {} Tryd.checked os 7 .any ((OpenSpec.ofChange Rows.planeTextsSpec).preRow enc Tryd.prog Tryd.f7 Rows.planeTextsRow.domain false Rows.planeTextsRow.laid) (((OpenSpec.ofChange Rows.planeTextsSpec).at F).post enc Tryd.prog Tryd.f7 false true false false) := by
  obtain ⟨places, hx⟩ := reads os enc
  refine returnsInHanded_of_row (C := Tryd.checked) (s := OpenSpec.ofChange Rows.planeTextsSpec) own started (by kernel_rfl) Tryd.func7
    (witness_row_at (enc := enc) (C := Tryd.checked) false (laidWorld os) #[.int .i64 0, .slice none 0 0] rfl (by kernel_rfl) (by kernel_rfl) (by kernel_rfl)
      (OpenSpec.preRow_of_cond 8 hx (by kernel_rfl) (fun k hk => by cases hk) (by kernel_rfl) (laid_met os _))) ?_
  intro W base args ds gs before hval hW _ hcond hreach hL _ _
  obtain ⟨p, q, hA0, hV, hpq, hfz, hnd⟩ := id hW
  obtain ⟨rfl, _⟩ := trodVars_none hV
  rw [List.append_nil] at hreach
  exact contract H enc W base args ds [] before hval hW hreach

theorem said : Rows.PlaneTextsSaid :=
  OpenClaim.holds_of_cond 7 Tryd.f7 rfl rfl rfl rfl rfl rfl rfl ⟨rfl, rfl, rfl, rfl, rfl⟩ rfl rfl rfl rfl rfl (by kernel_rfl) Tryd.func7 (by kernel_rfl)
    (of_decide_eq_true (by kernel_rfl)) (by unfold Func.isWrapper; first | (rw [if_pos (by decide +kernel)]; kernel_rfl) | (rw [if_neg (by decide +kernel)]; exact ⟨rfl, rfl⟩))
    (fun os started H enc _ F => by rw [OpenClaim.pre_eq_preRow]; exact lifted os started H enc F)

theorem plain (f : FuncId) (fn : Func) (hf : Tryd.pinned.checked.prog.funcNamed "stillage/stillagelaw09.PlaneTexts" = some f) (hfn : Tryd.pinned.checked.prog.funcs[f]? = some fn) :
    false = Tryd.pinned.checked.prog.looks [] ∧ ∀ (j : Nat) t, fn.params[j]? = some t → Tryd.pinned.checked.prog.wantsStandIn t = false := by
  obtain rfl : f = 7 := Option.some.inj ((show Tryd.prog.funcNamed "stillage/stillagelaw09.PlaneTexts" = some 7 by kernel_rfl).symm.trans hf) |>.symm
  obtain rfl : fn = Tryd.f7 := (Option.some.inj (Tryd.func7.symm.trans hfn)).symm
  refine ⟨by kernel_rfl, fun j t ht => ?_⟩
  rw [Tryd.params7] at ht
  have hm : t ∈ [3, 36] := by simpa using Array.mem_of_getElem? ht
  have hall : ([3, 36].all fun u => !Tryd.prog.wantsStandIn u) = true := by kernel_rfl
  exact (show Tryd.prog.wantsStandIn t = false by simpa using List.all_eq_true.1 hall t hm)

/-- THE CARD -/
theorem card : Rows.PlaneTextsCardSaid :=
  Claim7.holds_tied_plain_at .later [] _ _ _ _ said (fun _ h => by cases h) (by kernel_rfl) (fun _ h => by cases h) planeTexts_row_tie rfl ⟨rfl, rfl⟩ (by kernel_rfl) rfl plain (by kernel_rfl)


end Go.Proofs.YteboacjniokfpaaDoor.texts

