/-
  What is done to one plane changes no other one; a copy stays when its plane goes: for every number of blocks (cut to 8 to 300) and every two texts.
  Conditions: none besides the row's own.
-/
import Derived.Test.YteboacjniokfpaaDoorPlnG
namespace Go.Proofs.YteboacjniokfpaaDoor.apart
open Go.ChangeShapes Go.WideShapes Go.ChangeAt Go.RowKit Go SM PL

/-- the planes below k are one set -/
def allK (a : List UInt8) (k : Nat) : Nat → List UInt8 := fun p => if p < k then a else []
theorem allK_succ (a : List UInt8) (k : Nat) : upd (allK a k) k a = allK a (k + 1) := by
  funext p
  unfold upd allK
  by_cases e : p = k
  · subst e; simp
  · rw [if_neg e]
    have h1 : (p < k + 1) ↔ (p < k) := by omega
    simp only [h1]
def last (a b : List UInt8) : Nat → List UInt8 := upd (upd (upd (allK a 8) 3 b) 5 b) 3 []
theorem last_at (a b : List UInt8) {p : Nat} (hp : p < 8) : last a b p = if p = 5 then b else if p = 3 then [] else a := by
  unfold last upd allK
  by_cases h3 : p = 3
  · subst h3; simp
  · by_cases h5 : p = 5
    · subst h5; simp
    · simp [h3, h5, hp]
set_option maxRecDepth 100000 in
set_option maxHeartbeats 8000000 in
theorem walk (z : Int) (a b : ByteArray) (w : World) (_hz : -9223372036854775808 ≤ z ∧ z ≤ 9223372036854775807) (ha : a.size ≤ 140737488351232) (hb : b.size ≤ 140737488351232) :
    Calls Tryd.prog 6 #[.int .i64 z, .string a, .string b] w fun r w' => r = .returned (.bool true) ∧ Below w.heap.size w w' := by
  go_enter Tryd.func6, Tryd.ntmps6
  go_wp2_with fail
  refine (bound_any _ _).mono ?_
  rintro e w0 ⟨n, rfl, rfl, hn1, hn2, hnz⟩
  have HNZ := Lib.hid hnz
  clear hnz
  go_wp2_with fail
  refine (ml_new n hn1 hn2 w w (Below.refl _ _)).mono ?_
  rintro e w1 ⟨q, rfl, h⟩
  have H1 := Lib.hid h
  clear h
  have h1 := H1.out
  have La := Lib.hid (least_least a.data.toList)
  have q0 := eq_self ⟨#[]⟩
  clear H1
  go_wp2
  cases hfa : fitsB n a.data.toList with
  | false =>
    have H1 := Lib.hid h1
    clear h1
    have Ku := fun W (h : ML w q n (fun _ => []) W) => h.used
    rw [used_none, show bs [] = ⟨#[]⟩ from rfl] at Ku
    have Kp := fun W (h : ML w q n (fun _ => []) W) => h.put_no (p := 0) (s := a) (by omega) (by omega) hfa
    have Kp' : ∀ W, ML w q n (fun _ => []) W → Calls Tryd.prog 17 #[.pointer (some ⟨q, 0, none⟩), .int .i64 0, .string a] W _ := Kp
    clear Kp
    go_loopw [9] (fun i wr => i = .int .i64 0 ∧ Hid (ML w q n (fun _ => []) wr)) (fun _ _ => 0)
    case atStart => exact ⟨rfl, H1⟩
    case round =>
      clear H1
      obtain ⟨rfl, H⟩ := hrel
      go_wp2_with fail
      refine (Kp' _ H.out).mono ?_
      rintro e w2 ⟨rfl, h⟩
      have H2 := Lib.hid h
      clear h
      go_wp2_with fail
      refine (H2.out.fixed).mono ?_
      rintro e w3 ⟨rfl, h⟩
      have H3 := Lib.hid h
      clear h
      go_wp2_with fail
      refine (Ku _ H3.out).mono ?_
      rintro e w4 ⟨rfl, h⟩
      have H4 := Lib.hid h
      clear h
      go_wp2
      go_ret
      exact ⟨rfl, H4.out.below⟩
  | true =>
    have H1 := Lib.hid h1
    clear h1
    go_loopw [9] (fun i wr => ∃ k : Nat, k ≤ 8 ∧ i = .int .i64 k ∧ Hid (ML w q n (allK (least a.data.toList) k) wr)) (fun i _ => 8 - (intOf i).toNat)
    case atStart => exact ⟨0, by omega, rfl, H1⟩
    case round =>
      clear H1
      obtain ⟨k, hk, rfl, H⟩ := hrel
      by_cases hlt : k < 8
      · have hki : (k : Int) < 8 := by omega
        have Kp := fun W (h : ML w q n (allK (least a.data.toList) k) W) => h.put_yes (p := k) (s := a) hlt (by omega) hfa
        rw [allK_succ] at Kp
        generalize allK (least a.data.toList) k = G1 at *
        obtain ⟨G2, hG2⟩ : ∃ G2, allK (least a.data.toList) (k + 1) = G2 := ⟨_, rfl⟩
        rw [hG2] at Kp
        have HG2 := Lib.hid hG2
        clear hG2
        go_wp2_with fail
        refine (Kp _ H.out).mono ?_
        rintro e w2 ⟨rfl, h⟩
        have H2 := Lib.hid h
        clear h
        go_wp2
        go_roundw
        case rel => exact ⟨k + 1, by omega, by go_num, by rw [HG2.out]; exact H2⟩
        case measure => simp [intOf]; omega
      · obtain rfl : k = 8 := by omega
        cases hfb : fitsB n b.data.toList with
        | false =>
          have Kp := fun W (h : ML w q n (allK (least a.data.toList) 8) W) => h.put_no (p := 3) (s := b) (by omega) (by omega) hfb
          have Kp' : ∀ W, ML w q n (allK (least a.data.toList) 8) W → Calls Tryd.prog 17 #[.pointer (some ⟨q, 0, none⟩), .int .i64 3, .string b] W _ := Kp
          have Ku := fun W (h : ML w q n (allK (least a.data.toList) 8) W) => h.used
          rw [used_all (f := allK (least a.data.toList) 8) La.out (fun _ hp => if_pos hp)] at Ku
          have Ko := fun W (h : ML w q n (allK (least a.data.toList) 8) W) => h.or_ a ⟨#[]⟩ (by omega) (by decide)
          rw [orB_nil] at Ko
          clear Kp
          generalize allK (least a.data.toList) 8 = G at *
          generalize bs (least a.data.toList) = A at *
          have q1 := eq_self A
          go_wp2_with fail
          refine (Kp' _ H.out).mono ?_
          rintro e w2 ⟨rfl, h⟩
          have H2 := Lib.hid h
          clear h
          go_wp2_with fail
          refine (H2.out.fixed).mono ?_
          rintro e w3 ⟨rfl, h⟩
          have H3 := Lib.hid h
          clear h
          go_wp2_with fail
          refine (Ku _ H3.out).mono ?_
          rintro e w4 ⟨rfl, h⟩
          have H4 := Lib.hid h
          clear h
          go_wp2_with fail
          refine (Ko _ H4.out).mono ?_
          rintro e w5 ⟨rfl, h⟩
          have H5 := Lib.hid h
          clear h
          go_wp2
          go_ret
          exact ⟨rfl, H5.out.below⟩
        | true =>
          have Kp : ∀ W, ML w q n (allK (least a.data.toList) 8) W → Calls Tryd.prog 17 #[.pointer (some ⟨q, 0, none⟩), .int .i64 3, .string b] W _ := fun W (h : ML w q n (allK (least a.data.toList) 8) W) => h.put_yes (p := 3) (s := b) (by omega) (by omega) hfb
          have Kc : ∀ W, ML w q n (upd (allK (least a.data.toList) 8) 3 (least b.data.toList)) W → Calls Tryd.prog 19 #[.pointer (some ⟨q, 0, none⟩), .int .i64 3, .int .i64 5] W _ := fun W h => h.copy (p := 3) (t := 5) (by omega) (by omega)
          rw [show upd (allK (least a.data.toList) 8) 3 (least b.data.toList) 3 = least b.data.toList from rfl] at Kc
          have Kl : ∀ W, ML w q n (upd (upd (allK (least a.data.toList) 8) 3 (least b.data.toList)) 5 (least b.data.toList)) W → Calls Tryd.prog 21 #[.pointer (some ⟨q, 0, none⟩), .int .i64 3] W _ := fun W h => h.clear (p := 3) (by omega)
          rw [show upd (upd (upd (allK (least a.data.toList) 8) 3 (least b.data.toList)) 5 (least b.data.toList)) 3 [] = last (least a.data.toList) (least b.data.toList) from rfl] at Kl
          have Ko := fun W (h : ML w q n (last (least a.data.toList) (least b.data.toList)) W) => And.intro (h.or_ a ⟨#[]⟩ (by omega) (by decide)) (h.or_ b ⟨#[]⟩ (by omega) (by decide))
          simp only [orB_nil] at Ko
          have hat := fun p (hp : p < 8) => last_at (least a.data.toList) (least b.data.toList) hp
          have Kq := fun p (hp : p < 8) W (h : ML w q n (last (least a.data.toList) (least b.data.toList)) W) => h.plane hp
          generalize last (least a.data.toList) (least b.data.toList) = G at *
          generalize upd (upd (allK (least a.data.toList) 8) 3 (least b.data.toList)) 5 (least b.data.toList) = G5 at *
          generalize upd (allK (least a.data.toList) 8) 3 (least b.data.toList) = G3 at *
          generalize allK (least a.data.toList) 8 = G8 at *
          go_wp2_with fail
          refine (Kp _ H.out).mono ?_
          rintro e w2 ⟨rfl, h⟩
          have H2 := Lib.hid h
          clear h
          go_wp2_with fail
          refine (Kc _ H2.out).mono ?_
          rintro e w3 ⟨rfl, h⟩
          have H3 := Lib.hid h
          clear h
          go_wp2_with fail
          refine (Kl _ H3.out).mono ?_
          rintro e w4 ⟨rfl, h⟩
          have H4 := Lib.hid h
          clear h
          clear Kp Kc Kl H H2 H3
          go_wp2
          go_loopw [10] (fun i wr => ∃ k : Nat, k ≤ 8 ∧ i = .int .i64 k ∧ Hid (ML w q n G wr)) (fun i _ => 8 - (intOf i).toNat)
          case atStart => exact ⟨0, by omega, rfl, H4⟩
          case round =>
            clear H4
            obtain ⟨k, hk, rfl, H⟩ := hrel
            by_cases hlt : k < 8
            · have hki : (k : Int) < 8 := by omega
              have hak := hat k hlt
              have Kk := Kq k hlt
              rw [hak] at Kk
              clear Kq hat hak
              by_cases h5 : k = 5
              · subst h5
                rw [if_pos rfl] at Kk
                have Kk' : ∀ W, ML w q n G W → Calls Tryd.prog 25 #[.pointer (some ⟨q, 0, none⟩), .int .i64 5] W _ := Kk
                clear Kk
                generalize bs (least a.data.toList) = A at *
                generalize bs (least b.data.toList) = B at *
                have q1 := ne_self B
                go_wp2_with fail
                refine (Kk' _ H.out).mono ?_
                rintro e w' ⟨rfl, rfl⟩
                go_wp2_with fail
                refine ((Ko _ H.out).1).mono ?_
                rintro e w2 ⟨rfl, h⟩
                have H2 := Lib.hid h
                clear h
                go_wp2_with fail
                refine ((Ko _ H2.out).2).mono ?_
                rintro e w3 ⟨rfl, h⟩
                have H3 := Lib.hid h
                clear h
                go_wp2
                go_roundw
                case rel => exact ⟨6, by omega, by go_num, H3⟩
                case measure => simp [intOf]
              · rw [if_neg h5] at Kk
                by_cases h3 : k = 3
                · subst h3
                  rw [if_pos rfl] at Kk
                  have Kk' : ∀ W, ML w q n G W → Calls Tryd.prog 25 #[.pointer (some ⟨q, 0, none⟩), .int .i64 3] W fun e w' => e = .returned (.tuple #[.string ⟨#[]⟩, .int .i64 0]) ∧ W = w' := Kk
                  clear Kk
                  generalize bs (least a.data.toList) = A at *
                  generalize bs (least b.data.toList) = B at *
                  have q1 := ne_self ⟨#[]⟩
                  go_wp2_with fail
                  refine (Kk' _ H.out).mono ?_
                  rintro e w' ⟨rfl, rfl⟩
                  go_wp2_with fail
                  refine ((Ko _ H.out).1).mono ?_
                  rintro e w2 ⟨rfl, h⟩
                  have H2 := Lib.hid h
                  clear h
                  go_wp2
                  go_roundw
                  case rel => exact ⟨4, by omega, by go_num, H2⟩
                  case measure => simp [intOf]
                · rw [if_neg h3] at Kk
                  have t3 : ((k : Int) == 3) = false := by rw [beq_eq_false_iff_ne]; omega
                  have t5 : ((k : Int) == 5) = false := by rw [beq_eq_false_iff_ne]; omega
                  clear h3 h5
                  generalize bs (least a.data.toList) = A at *
                  generalize bs (least b.data.toList) = B at *
                  have q1 := ne_self A
                  go_wp2_with fail
                  refine (Kk _ H.out).mono ?_
                  rintro e w' ⟨rfl, rfl⟩
                  go_wp2_with fail
                  refine ((Ko _ H.out).1).mono ?_
                  rintro e w2 ⟨rfl, h⟩
                  have H2 := Lib.hid h
                  clear h
                  go_wp2
                  go_roundw
                  case rel => exact ⟨k + 1, by omega, by go_num, H2⟩
                  case measure => simp [intOf]; omega
            · obtain rfl : k = 8 := by omega
              go_wp2_with fail
              refine (H.out.fixed).mono ?_
              rintro e w2 ⟨rfl, h⟩
              have H2 := Lib.hid h
              clear h
              go_wp2
              go_ret
              exact ⟨rfl, H2.out.below⟩

set_option maxRecDepth 100000 in
/-- WHAT THE WALK GIVES, for every argument that can be read. -/
theorem contract (H : Type) (enc : TypeId × Value → H) (W : World) (base : Nat) (args : Array Value) (ds gs : List (DataW H)) (before : List MemPlace)
    (hval : ∀ (j : Nat) t v, Tryd.f6.params[j]? = some t → args[j]? = some v → Value.okWide Tryd.prog W .any base t v)
    (hW : DataW.Whole enc Tryd.prog Tryd.f6.params.toList Rows.planeApartSpec.vars false W args.toList ds gs before)
    (hreach : (DataW.weightsEach Tryd.prog (Tryd.f6.params.toList) ds).all (· ≤ reachBytes) = true) :
    Calls Tryd.prog 6 args W fun e W' => ∃ v, e = .returned v ∧ Rows.planeApartSpec.post enc Tryd.prog Tryd.f6 false true false false W args v W' := by
  have hW' := hW
  obtain ⟨p, q, hA0, hV, rfl, hfz, hnd⟩ := hW
  have hA : DataW.TrodAll enc Tryd.prog W 0 (fun _ => true) true Tryd.f6.params.toList args.toList ds p := hA0
  rw [Tryd.params6] at hA hval hreach
  obtain ⟨v0, v1, v2, d0, d1, d2, p0, p1, p2, rfl, rfl, rfl, h0, h1, h2⟩ := trodAll_three hA
  obtain ⟨rfl, rfl⟩ := trodVars_none hV
  obtain ⟨n0, rfl, rfl, rfl, wn0⟩ := open_int Tryd.underlying3 (hval 0 3 v0 rfl rfl) h0
  have r0 := int_range wn0
  obtain ⟨s1, rfl, rfl, rfl, ws1⟩ := Go.ChangeMaps.open_string Tryd.underlying9 (hval 1 9 v1 rfl rfl) h1
  have r1 := reach_size (sized_string hreach (j := 1) rfl rfl)
  obtain ⟨s2, rfl, rfl, rfl, ws2⟩ := Go.ChangeMaps.open_string Tryd.underlying9 (hval 2 9 v2 rfl rfl) h2
  have r2 := reach_size (sized_string hreach (j := 2) rfl rfl)
  clear hA0 hval
  simp only [List.append_nil] at hW'
  refine (walk n0 s1 s2 W r0 r1 r2).mono fun e W' ⟨he, hB⟩ => ?_
  subst he
  exact ⟨_, rfl, post_of_below (pa := [] ++ ([] ++ ([]))) (pv := []) hW' (fun _ _ _ => trodAll_mk1 (shut_bool Tryd.underlying4 _)) (fun sp hsp => trodAll_mk3 (shut_int Tryd.underlying3 wn0) (Go.ChangeMaps.shut_string Tryd.underlying9 ws1) (Go.ChangeMaps.shut_string Tryd.underlying9 ws2)) (fun _ _ => rfl) (by simp) hB (ok_one (by kernel_rfl) rfl (okWide_bool_mk Tryd.underlying4 _))⟩

theorem reads (os : Os) {H : Type} (enc : TypeId × Value → H) : ∃ places, DataW.whole enc Tryd.prog ((laidWorld os).forCall (fun _ _ => 0) ⟨#[], #[.int .i64 0, .string ⟨#[]⟩, .string ⟨#[]⟩], []⟩).memory Tryd.f6.params.toList Rows.planeApartSpec.vars false (#[.int .i64 0, .string ⟨#[]⟩, .string ⟨#[]⟩] : Array Value).toList 8 = some ([.lit (.int .i64 0), .lit (.string []), .lit (.string [])], [], places) :=
  ⟨[], by kernel_rfl⟩

set_option maxRecDepth 100000 in
theorem lifted (os : Os) (started : os.Started) (H : Type) (enc : TypeId × Value → H) (F : Stop.Interp) :
    ReturnsInHanded {} Tryd.checked os 6 .any ((OpenSpec.ofChange Rows.planeApartSpec).preRow enc Tryd.prog Tryd.f6 Rows.planeApartRow.domain false Rows.planeApartRow.laid) (((OpenSpec.ofChange Rows.planeApartSpec).at F).post enc Tryd.prog Tryd.f6 false true false false) := by
  obtain ⟨places, hx⟩ := reads os enc
  refine returnsInHanded_of_row (C := Tryd.checked) (s := OpenSpec.ofChange Rows.planeApartSpec) own started (by kernel_rfl) Tryd.func6
    (witness_row_at (enc := enc) (C := Tryd.checked) false (laidWorld os) #[.int .i64 0, .string ⟨#[]⟩, .string ⟨#[]⟩] rfl (by kernel_rfl) (by kernel_rfl) (by kernel_rfl)
      (OpenSpec.preRow_of_cond 8 hx (by kernel_rfl) (fun k hk => by cases hk) (by kernel_rfl) (laid_met os _))) ?_
  intro W base args ds gs before hval hW _ hcond hreach hL _ _
  obtain ⟨p, q, hA0, hV, hpq, hfz, hnd⟩ := id hW
  obtain ⟨rfl, _⟩ := trodVars_none hV
  rw [List.append_nil] at hreach
  exact contract H enc W base args ds [] before hval hW hreach

theorem said : Rows.PlaneApartSaid :=
  OpenClaim.holds_of_cond 6 Tryd.f6 rfl rfl rfl rfl rfl rfl rfl ⟨rfl, rfl, rfl, rfl, rfl⟩ rfl rfl rfl rfl rfl (by kernel_rfl) Tryd.func6 (by kernel_rfl)
    (of_decide_eq_true (by kernel_rfl)) (by unfold Func.isWrapper; first | (rw [if_pos (by decide +kernel)]; kernel_rfl) | (rw [if_neg (by decide +kernel)]; exact ⟨rfl, rfl⟩))
    (fun os started H enc _ F => by rw [OpenClaim.pre_eq_preRow]; exact lifted os started H enc F)

theorem plain (f : FuncId) (fn : Func) (hf : Tryd.pinned.checked.prog.funcNamed "stillage/stillagelaw09.PlaneApart" = some f) (hfn : Tryd.pinned.checked.prog.funcs[f]? = some fn) :
    false = Tryd.pinned.checked.prog.looks [] ∧ ∀ (j : Nat) t, fn.params[j]? = some t → Tryd.pinned.checked.prog.wantsStandIn t = false := by
  obtain rfl : f = 6 := Option.some.inj ((show Tryd.prog.funcNamed "stillage/stillagelaw09.PlaneApart" = some 6 by kernel_rfl).symm.trans hf) |>.symm
  obtain rfl : fn = Tryd.f6 := (Option.some.inj (Tryd.func6.symm.trans hfn)).symm
  refine ⟨by kernel_rfl, fun j t ht => ?_⟩
  rw [Tryd.params6] at ht
  have hm : t ∈ [3, 9, 9] := by simpa using Array.mem_of_getElem? ht
  have hall : ([3, 9, 9].all fun u => !Tryd.prog.wantsStandIn u) = true := by kernel_rfl
  exact (show Tryd.prog.wantsStandIn t = false by simpa using List.all_eq_true.1 hall t hm)

/-- THE CARD -/
theorem card : Rows.PlaneApartCardSaid :=
  Claim7.holds_tied_plain_at .later [] _ _ _ _ said (fun _ h => by cases h) (by kernel_rfl) (fun _ h => by cases h) planeApart_row_tie rfl ⟨rfl, rfl⟩ (by kernel_rfl) rfl plain (by kernel_rfl)


end Go.Proofs.YteboacjniokfpaaDoor.apart

