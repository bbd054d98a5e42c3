/-
  For every list of inodes and every text: the bytes of the list, or that it may not be, and the list of the text, or that it is none's, are as the document says; the list that is told of the text is its owner's: whatever is done to it, the same is told again; and the calls whose answers the document fixes are answered so. No condition on the list or the text but that they fit a machine.
-/
import Derived.Test.YtffebghkmobeoaaDoorTabX
import Derived.Test.YtffebghkmobeoaaDoorTabK
import Derived.Test.YtffebghkmobeoaaDoorTabV
namespace Go.Proofs.YtffebghkmobeoaaDoor.binodes
open Go.Proofs.YtffebghkmobeoaaDoor
open Go.ChangeShapes Go.WideShapes Go.ChangeAt Go.RowKit Go

theorem nil_at {T : Type} {C : T → List Value} {k : Nat} (w : World) : LstAt C k w (.slice none 0 0) [] := ⟨none, 0, rfl, fun e => absurd rfl e⟩
theorem rdsR : Reads kI (inoRd 4611686018427387904 4611686018427387904 4611686018427387904 4611686018427387904) := readsI (by omega) (by omega) (by omega) (by omega)
set_option maxRecDepth 100000 in
set_option maxHeartbeats 8000000 in
theorem walk (v : Value) (l : List Ino) (s : ByteArray) (W : World) (h : LstAt inoC 5 W v l) (hl : l.length ≤ 9223372036854775807) (_ : ∀ q ∈ l, InoIn q) (hs : s.size ≤ 140737488351232) (hg : GE W) :
    Calls Tryd.prog 4 #[v, .string s] W fun e W' => e = .returned (.bool true) ∧ Below W.heap.size W W' := by
  have C1 := fun w' (hB : Below W.heap.size W w') => inos_any v l hl w' (h.later hB)
  have C2 := fun w' (hB : Below W.heap.size W w') => inoRLay_any v l hl w' (h.later hB)
  obtain ⟨S, ee, hS⟩ := layV_form kI l
  rw [hS] at C1 C2
  have C3 := fun w' => inoRParse_any s (by omega) w'
  have C4 := fun w' (hB : Below W.heap.size W w') => inoParses_any s (by omega) w' (hg.below hB)
  have CF := fun w (hB : Below W.heap.size W w) => fixed_any w (hg.below hB)
  clear h hS hs
  go_enter Tryd.func4, Tryd.ntmps4
  go_wp2_with fail
  refine (C1 _ (Below.refl _ _)).mono ?_
  rintro e w1 ⟨rfl, B1⟩
  have HB1 := Lib.hid B1
  clear B1 C1
  go_wp2_with fail
  refine (C2 _ HB1.out).mono ?_
  rintro e w2 ⟨rfl, B2⟩
  have HB2 := Lib.hid (HB1.out.trans (B2.mono HB1.out.size))
  clear B2 C2
  go_wp2_with fail
  refine (C3 _).mono ?_
  intro e w3 hp
  rcases hp with ⟨⟨l1, x1, hi, rfl, hr⟩ | ⟨hno, rfl⟩, B⟩
  · have HB3 := Lib.hid (HB2.out.trans (B.mono HB2.out.size))
    have hv := lst_of_owns inoC_len (by decide) hr
    have hl1 : l1.length ≤ 4096 := hi.1.1
    have hvc := hv
    obtain ⟨ax, cx, hx⟩ := hv.shape
    obtain ⟨N, hN⟩ : ∃ N, l1.length = N := ⟨_, rfl⟩
    rw [hN] at hx hl1
    subst hx
    have HV := Lib.hid hvc
    have HI := Lib.hid hi
    have HN := Lib.hid hN
    clear B hr hv hvc hi C3 hN
    go_wp2_with fail
    go_loopw [11] (fun i wr => ∃ t : Nat, t ≤ 2 ∧ i = .int .i64 t ∧ Below w3.heap.size w3 wr) (fun i _ => 2 - (intOf i).toNat)
    case atStart => exact ⟨0, by omega, rfl, Below.refl _ _⟩
    case round =>
      obtain ⟨t, ht, rfl, hB⟩ := hrel
      have HB := Lib.hid hB
      clear hB
      by_cases hlt : t < 2
      · have hti : (t : Int) < 2 := by omega
        obtain ⟨wt, rfl⟩ : ∃ wt, wt = wr := ⟨_, rfl⟩
        go_wp2_with fail
        refine (C4 wt (HB3.out.trans (HB.out.mono HB3.out.size))).mono ?_
        intro e w4 hp
        obtain ⟨⟨x2, rfl, hr⟩, B⟩ := hp.is rdsI HI.out
        have hw3t := HB.out.size
        have HB4 := Lib.hid (HB.out.trans (B.mono hw3t))
        have hv2 := lst_of_owns inoC_len (by decide) hr
        obtain ⟨ay, cy, hy⟩ := hv2.shape
        rw [HN.out] at hy hr
        subst hy
        have CS := inoSame_any _ _ l1 l1 (by rw [HN.out]; omega) (by rw [HN.out]; omega) w4 hv2 (HV.out.later HB4.out)
        rw [sameB_yes rfl] at CS
        have HR := Lib.hid hr
        clear B hr hv2
        go_wp2_with fail
        refine CS.mono ?_
        rintro e w5 ⟨rfl, B⟩
        have HB5 := Lib.hid (HB4.out.trans (B.mono HB4.out.size))
        have HR5 := Lib.hid (owns_later HR.out B)
        clear B CS HR
        go_wp2_with fail
        go_loopw [14] (fun i wr => ∃ (j : Nat) (xs : List Value), j ≤ N ∧ i = .int .i64 j ∧ wr.ownsRow wt.heap.size 34 5 (.slice ay N cy) N xs ∧ Below w3.heap.size w3 wr) (fun i _ => N - (intOf i).toNat)
        case atStart => exact ⟨0, _, Nat.zero_le _, rfl, HR5.out, HB5.out⟩
        case round =>
          obtain ⟨j, xs, hj, rfl, hrow, hB⟩ := hrel
          have HB6 := Lib.hid hB
          have HW := Lib.hid hrow
          clear hB
          by_cases hjl : j < N
          · have hji : (j : Int) < (N : Int) := by omega
            obtain ⟨g, cp, hgc⟩ := Joins.ownsRow_form hrow (by omega)
            obtain ⟨rfl, -, rfl⟩ : ay = some ⟨g, 0, none⟩ ∧ True ∧ cy = cp := by simpa using hgc
            have hxl : xs.length = N * 5 := hrow.1
            have hj5 : j * 5 + 4 < N * 5 := by omega
            have hgb := (hrow.lt g rfl).1
            have c0 : wr.cell? ⟨g, j * 5, none⟩ = some (xs[j * 5]'(by omega)) := by rw [hrow.cellAt (j * 5) (by omega)]; exact List.getElem?_eq_getElem _
            have c1 : wr.cell? ⟨g, j * 5 + 1, none⟩ = some (xs[j * 5 + 1]'(by omega)) := by rw [hrow.cellAt (j * 5 + 1) (by omega)]; exact List.getElem?_eq_getElem _
            have c2 : wr.cell? ⟨g, j * 5 + 2, none⟩ = some (xs[j * 5 + 2]'(by omega)) := by rw [hrow.cellAt (j * 5 + 2) (by omega)]; exact List.getElem?_eq_getElem _
            have c3 : wr.cell? ⟨g, j * 5 + 3, none⟩ = some (xs[j * 5 + 3]'(by omega)) := by rw [hrow.cellAt (j * 5 + 3) (by omega)]; exact List.getElem?_eq_getElem _
            have c4 : wr.cell? ⟨g, j * 5 + 4, none⟩ = some (xs[j * 5 + 4]'(by omega)) := by rw [hrow.cellAt (j * 5 + 4) (by omega)]; exact List.getElem?_eq_getElem _
            have f0 : wr.frozen? ⟨g, j * 5, none⟩ = false := hrow.frozenAt _
            have f1 : wr.frozen? ⟨g, j * 5 + 1, none⟩ = false := hrow.frozenAt _
            have f2 : wr.frozen? ⟨g, j * 5 + 2, none⟩ = false := hrow.frozenAt _
            have f3 : wr.frozen? ⟨g, j * 5 + 3, none⟩ = false := hrow.frozenAt _
            have f4 : wr.frozen? ⟨g, j * 5 + 4, none⟩ = false := hrow.frozenAt _
            generalize xs[j * 5]'(by omega) = p0 at c0
            generalize xs[j * 5 + 1]'(by omega) = p1 at c1
            generalize xs[j * 5 + 2]'(by omega) = p2 at c2
            generalize xs[j * 5 + 3]'(by omega) = p3 at c3
            generalize xs[j * 5 + 4]'(by omega) = p4 at c4
            obtain ⟨u, hu⟩ : ∃ u, (((((wr.setCell ⟨g, j * 5, none⟩ (.int .i64 0)).setCell ⟨g, j * 5 + 1, none⟩ (.bool false)).setCell ⟨g, j * 5 + 2, none⟩ (.int .i64 0)).setCell ⟨g, j * 5 + 3, none⟩ (.int .i64 0)).setCell ⟨g, j * 5 + 4, none⟩ (.int .i64 0)) = u := ⟨_, rfl⟩
            have hO := (((((hrow.stored (j * 5) (.int .i64 0)).1.stored (j * 5 + 1) (.bool false)).1.stored (j * 5 + 2) (.int .i64 0)).1.stored (j * 5 + 3) (.int .i64 0)).1.stored (j * 5 + 4) (.int .i64 0)).1
            rw [hu] at hO
            have HO := Lib.hid hO
            have hgw : w3.heap.size ≤ g := Nat.le_trans hw3t hgb
            have HB7 := Lib.hid (show Below w3.heap.size w3 u by
              rw [← hu]
              exact ((((HB6.out.setCell (p := ⟨g, j * 5, none⟩) hgw _).setCell (p := ⟨g, j * 5 + 1, none⟩) hgw _).setCell (p := ⟨g, j * 5 + 2, none⟩) hgw _).setCell (p := ⟨g, j * 5 + 3, none⟩) hgw _).setCell (p := ⟨g, j * 5 + 4, none⟩) hgw _)
            clear hO hrow hgc hxl hj5
            go_wp2_with fail
            go_roundw
            case rel => exact ⟨j + 1, _, by omega, by go_num, HO.out, HB7.out⟩
            case measure => simp [intOf]; omega
          · obtain rfl : j = N := by omega
            clear hrow
            go_wp2_with fail
            go_roundw
            case rel => exact ⟨t + 1, by omega, by go_num, HB6.out⟩
            case measure => simp [intOf]; omega
      · obtain rfl : t = 2 := by omega
        go_wp2_with fail
        refine (CF _ (HB3.out.trans (HB.out.mono HB3.out.size))).mono ?_
        rintro e w5 ⟨rfl, B⟩
        go_wp2_with fail
        go_ret
        exact ⟨rfl, HB3.out.trans ((HB.out.trans (B.mono HB.out.size)).mono HB3.out.size)⟩
  · have HB3 := Lib.hid (HB2.out.trans (B.mono HB2.out.size))
    have HN := Lib.hid hno
    clear B hno C3
    go_wp2_with fail
    go_loopw [11] (fun i wr => ∃ t : Nat, t ≤ 2 ∧ i = .int .i64 t ∧ Below w3.heap.size w3 wr) (fun i _ => 2 - (intOf i).toNat)
    case atStart => exact ⟨0, by omega, rfl, Below.refl _ _⟩
    case round =>
      obtain ⟨t, ht, rfl, hB⟩ := hrel
      have HB := Lib.hid hB
      clear hB
      by_cases hlt : t < 2
      · have hti : (t : Int) < 2 := by omega
        obtain ⟨wt, rfl⟩ : ∃ wt, wt = wr := ⟨_, rfl⟩
        go_wp2_with fail
        refine (C4 wt (HB3.out.trans (HB.out.mono HB3.out.size))).mono ?_
        intro e w4 hp
        obtain ⟨rfl, B⟩ := hp.no HN.out
        have hw3t := HB.out.size
        have HB4 := Lib.hid (HB.out.trans (B.mono hw3t))
        have CS := inoSame_any (.slice none 0 0) (.slice none 0 0) [] [] (by simp) (by simp) w4 (nil_at w4) (nil_at w4)
        rw [sameB_yes rfl] at CS
        clear B
        go_wp2_with fail
        refine CS.mono ?_
        rintro e w5 ⟨rfl, B⟩
        have HB5 := Lib.hid (HB4.out.trans (B.mono HB4.out.size))
        clear B CS
        go_wp2_with fail
        go_loopw [14] (fun i wr => i = .int .i64 0 ∧ Below w3.heap.size w3 wr) (fun _ _ => 0)
        case atStart => exact ⟨rfl, HB5.out⟩
        case round =>
          obtain ⟨rfl, hB⟩ := hrel
          have HB6 := Lib.hid hB
          clear hB
          go_wp2_with fail
          go_roundw
          case rel => exact ⟨t + 1, by omega, by go_num, HB6.out⟩
          case measure => simp [intOf]; omega
      · obtain rfl : t = 2 := by omega
        go_wp2_with fail
        refine (CF _ (HB3.out.trans (HB.out.mono HB3.out.size))).mono ?_
        rintro e w5 ⟨rfl, B⟩
        go_wp2_with fail
        go_ret
        exact ⟨rfl, HB3.out.trans ((HB.out.trans (B.mono HB.out.size)).mono HB3.out.size)⟩

set_option maxRecDepth 100000 in
/-- WHAT THE WALK GIVES, for every argument that can be read. -/
theorem contract (H : Type) (enc : TypeId × Value → H) (W : World) (base : Nat) (args : Array Value) (ds gs : List (DataW H)) (before : List MemPlace)
    (hval : ∀ (j : Nat) t v, Tryd.f4.params[j]? = some t → args[j]? = some v → Value.okWide Tryd.prog W .any base t v)
    (hW : DataW.Whole enc Tryd.prog Tryd.f4.params.toList Rows.tableInodesSpec.vars false W args.toList ds gs before)
    (hreach : (DataW.weightsEach Tryd.prog (Tryd.f4.params.toList) ds).all (· ≤ reachBytes) = true) (hg : GE W) :
    Calls Tryd.prog 4 args W fun e W' => ∃ v, e = .returned v ∧ Rows.tableInodesSpec.post enc Tryd.prog Tryd.f4 false true false false W args v W' := by
  have hW' := hW
  obtain ⟨p, q, hA0, hV, rfl, hfz, hnd⟩ := hW
  have hA : DataW.TrodAll enc Tryd.prog W 0 (fun _ => true) true Tryd.f4.params.toList args.toList ds p := hA0
  rw [Tryd.params4] at hA hval hreach
  obtain ⟨v0, v1, d0, d1, p0, p1, rfl, rfl, rfl, h0, h1⟩ := trodAll_two hA
  obtain ⟨rfl, rfl⟩ := trodVars_none hV
  obtain ⟨s1, rfl, rfl, rfl, ws1⟩ := Go.ChangeMaps.open_string Tryd.underlying9 (hval 1 9 v1 rfl rfl) h1
  have r1 := reach_size (sized_string hreach (j := 1) rfl rfl)
  have lt0 : ∀ x ∈ p0, x.block < W.heap.size := fun x hx => hW'.lt x (by simp [hx])
  obtain ⟨l0, k0, r0, q0⟩ := inos_open (hval 0 24 v0 rfl rfl) h0 lt0 (weights_of hreach (j := 0) rfl rfl)
  clear hA0 hval
  simp only [List.append_nil] at hW'
  refine (walk v0 l0 s1 W k0 r0 q0 r1 hg).mono fun e W' ⟨he, hB⟩ => ?_
  subst he
  exact ⟨_, rfl, post_of_below (pa := p0 ++ ([])) (pv := []) hW' (fun _ _ _ => trodAll_mk1 (shut_bool Tryd.underlying4 _)) (fun sp hsp => trodAll_mk2 (WideElems.Trod_stays laidOut (by kernel_rfl) (of_decide_eq_true (by kernel_rfl)) h0 (fun x hx => hB.same (lt0 x hx)) (fun x hx => hsp x (by simp [hx]))) (Go.ChangeMaps.shut_string Tryd.underlying9 ws1)) (fun _ _ => rfl) (by simp) hB (ok_one (by kernel_rfl) rfl (okWide_bool_mk Tryd.underlying4 _))⟩

theorem reads (os : Os) {H : Type} (enc : TypeId × Value → H) : ∃ places, DataW.whole enc Tryd.prog ((laidWorldH os).forCall (fun _ _ => 0) ⟨#[], #[.slice none 0 0, .string ⟨#[]⟩], []⟩).memory Tryd.f4.params.toList Rows.tableInodesSpec.vars false (#[.slice none 0 0, .string ⟨#[]⟩] : Array Value).toList 8 = some ([.nil, .lit (.string [])], [], places) :=
  ⟨[], by kernel_rfl⟩

set_option maxRecDepth 100000 in
theorem lifted (os : Os) (started : os.Started) (H : Type) (enc : TypeId × Value → H) (F : Stop.Interp) :
    ReturnsInHanded {} Tryd.checked os 4 .any ((OpenSpec.ofChange Rows.tableInodesSpec).preRow enc Tryd.prog Tryd.f4 Rows.tableInodesRow.domain false Rows.tableInodesRow.laid) (((OpenSpec.ofChange Rows.tableInodesSpec).at F).post enc Tryd.prog Tryd.f4 false true false false) := by
  obtain ⟨places, hx⟩ := reads os enc
  refine returnsInHanded_of_row (C := Tryd.checked) (s := OpenSpec.ofChange Rows.tableInodesSpec) own started (by kernel_rfl) Tryd.func4
    (witness_row_at (enc := enc) (C := Tryd.checked) false (laidWorldH os) #[.slice none 0 0, .string ⟨#[]⟩] rfl (by kernel_rfl) (by kernel_rfl) (by kernel_rfl)
      (OpenSpec.preRow_of_cond 8 hx (by kernel_rfl) (fun k hk => by cases hk) (by kernel_rfl) (laid_metH os _))) ?_
  intro W base args ds gs before hval hW _ hcond hreach hL _ _
  obtain ⟨p, q, hA0, hV, hpq, hfz, hnd⟩ := id hW
  obtain ⟨rfl, _⟩ := trodVars_none hV
  rw [List.append_nil] at hreach
  exact contract H enc W base args ds [] before hval hW hreach (handle_of_laid hL)

theorem said : Rows.TableInodesSaid :=
  OpenClaim.holds_of_cond 4 Tryd.f4 rfl rfl rfl rfl rfl rfl rfl ⟨rfl, rfl, rfl, rfl, rfl⟩ rfl rfl rfl rfl rfl (by kernel_rfl) Tryd.func4 (by kernel_rfl)
    (of_decide_eq_true (by kernel_rfl)) (by unfold Func.isWrapper; first | (rw [if_pos (by decide +kernel)]; kernel_rfl) | (rw [if_neg (by decide +kernel)]; exact ⟨rfl, rfl⟩))
    (fun os started H enc _ F => by rw [OpenClaim.pre_eq_preRow]; exact lifted os started H enc F)

theorem plain (f : FuncId) (fn : Func) (hf : Tryd.pinned.checked.prog.funcNamed "stillage/stillagelaw12.TableInodes" = some f) (hfn : Tryd.pinned.checked.prog.funcs[f]? = some fn) :
    true = Tryd.pinned.checked.prog.looks [] ∧ ∀ (j : Nat) t, fn.params[j]? = some t → Tryd.pinned.checked.prog.wantsStandIn t = false := by
  obtain rfl : f = 4 := Option.some.inj ((show Tryd.prog.funcNamed "stillage/stillagelaw12.TableInodes" = some 4 by kernel_rfl).symm.trans hf) |>.symm
  obtain rfl : fn = Tryd.f4 := (Option.some.inj (Tryd.func4.symm.trans hfn)).symm
  refine ⟨by kernel_rfl, fun j t ht => ?_⟩
  rw [Tryd.params4] at ht
  have hm : t ∈ [24, 9] := by simpa using Array.mem_of_getElem? ht
  have hall : ([24, 9].all fun u => !Tryd.prog.wantsStandIn u) = true := by kernel_rfl
  exact (show Tryd.prog.wantsStandIn t = false by simpa using List.all_eq_true.1 hall t hm)

/-- THE CARD -/
theorem card : Rows.TableInodesCardSaid :=
  Claim7.holds_tied_plain_at .later [] _ _ _ _ said (fun _ h => by cases h) (by kernel_rfl) (fun _ h => by cases h) tableInodes_row_tie rfl ⟨rfl, rfl⟩ (by kernel_rfl) rfl plain (by kernel_rfl)


end Go.Proofs.YtffebghkmobeoaaDoor.binodes

