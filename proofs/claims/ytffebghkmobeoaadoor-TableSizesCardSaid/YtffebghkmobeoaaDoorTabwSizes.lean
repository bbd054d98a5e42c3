/-
  For every three lists: the calls whose answers the document fixes are answered so; the bytes of inodes that may be are two for how many there are, and at most twelve for each; a list of none of each kind takes one byte. No condition on the lists but that they fit a machine.
-/
import Derived.Test.YtffebghkmobeoaaDoorTabX
import Derived.Test.YtffebghkmobeoaaDoorTabK
namespace Go.Proofs.YtffebghkmobeoaaDoor.bsizes
open Go.Proofs.YtffebghkmobeoaaDoor
open Go.ChangeShapes Go.WideShapes Go.ChangeAt Go.RowKit Go

theorem nil_at {T : Type} {C : T → List Value} {k : Nat} (w : World) : LstAt C k w (.slice none 0 0) [] := ⟨none, 0, rfl, fun e => absurd rfl e⟩
theorem nil_may {T : Type} {K : Kd T} : May K [] := ⟨by simp, fun i hi => absurd hi (by simp)⟩
theorem nil_v {T : Type} {K : Kd T} : layV K [] = .tuple #[.string ⟨#[0]⟩, .int .i64 0] := by
  have e0 : dg 0 = [0] := by rw [dg_lt (by decide)]; rfl
  rw [layV_yes nil_may]
  show Value.tuple #[.string (bs (dg 0 ++ [])), .int .i64 0] = _
  rw [e0]; rfl
set_option maxRecDepth 100000 in
set_option maxHeartbeats 2000000 in
theorem walk (x y z : Value) (l : List Ino) (m : List Ent) (n : List Snp) (W : World) (h : LstAt inoC 5 W x l ∧ LstAt entC 2 W y m ∧ LstAt snpC 5 W z n)
    (hl : l.length ≤ 9223372036854775807 ∧ m.length ≤ 9223372036854775807 ∧ n.length ≤ 9223372036854775807) (_ : ∀ q ∈ m, q.name.size ≤ 140737488355328) (_ : ∀ q ∈ n, q.name.size ≤ 140737488355328) (hg : GE W) :
    Calls Tryd.prog 9 #[.agg #[x, y, z]] W fun e W' => e = .returned (.bool true) ∧ Below W.heap.size W W' := by
  obtain ⟨h1, -, -⟩ := h
  obtain ⟨av, cv, rfl⟩ := h1.shape
  obtain ⟨w0, hw0⟩ : ∃ w0, W.alloc (.cells #[.slice av l.length cv, y, z] 44) = w0 := ⟨_, rfl⟩
  have hh : w0.heap[W.heap.size]? = some (.cells #[.slice av l.length cv, y, z] 44 (0, 0)) := by rw [← hw0]; exact heap_alloc_new W _
  have HB0 := Lib.hid (show Below W.heap.size W w0 by rw [← hw0]; exact (Below.refl _ W).alloc (Nat.le_refl _) _)
  have C1 := fun w' (hB : Below W.heap.size W w') => inos_any _ l hl.1 w' (h1.later hB)
  have C2 := fun w => inos_any (.slice none 0 0) [] (by simp) w (nil_at w)
  have C3 := fun w => ents_any (.slice none 0 0) [] (by simp) (by simp) w (nil_at w)
  have C4 := fun w => snps_any (.slice none 0 0) [] (by simp) (by simp) w (nil_at w)
  rw [nil_v] at C2 C3 C4
  have CF := fun w (hB : Below W.heap.size W w) => fixed_any w (hg.below hB)
  have HK := Lib.hid (show ∀ w', Below w0.heap.size w0 w' → w'.cell? ⟨W.heap.size, 0, none⟩ = some (.slice av l.length cv) from fun w' hB => by
    have e := (hB.block _ (lt_of_heap hh)).trans hh
    simp [World.cell?, e])
  have c0 := HK.out w0 (Below.refl _ _)
  by_cases hm : May kI l
  · have hn4 : (l.length : Int) ≤ 4096 := by have := hm.1; omega
    have hsz : ((bs (laidL kI l)).size : Int) ≤ 2 + 12 * (l.length : Int) := by
      rw [bs_size]
      have := laid_len (n := 12) (fun x hx => inoEnc_len hx) hm
      omega
    rw [layV_yes hm] at C1
    generalize bs (laidL kI l) = S at *
    generalize l.length = N at *
    clear hh h1 hl
    go_enter Tryd.func9, Tryd.ntmps9
    go_wp2_with fail
    refine (C1 _ HB0.out).mono ?_
    rintro e w1 ⟨rfl, B1⟩
    have HB1 := Lib.hid (show Below w0.heap.size w0 w1 from B1)
    clear B1 C1
    go_wp2_with fail
    refine (C2 _).mono ?_
    rintro e w2 ⟨rfl, B2⟩
    have HB2 := Lib.hid (HB1.out.trans (B2.mono HB1.out.size))
    clear B2
    go_wp2_with fail
    refine (C3 _).mono ?_
    rintro e w3 ⟨rfl, B3⟩
    have HB3 := Lib.hid (HB2.out.trans (B3.mono HB2.out.size))
    clear B3
    go_wp2_with fail
    refine (C4 _).mono ?_
    rintro e w4 ⟨rfl, B4⟩
    have HB4 := Lib.hid (HB3.out.trans (B4.mono HB3.out.size))
    clear B4 c0
    go_wp2_with fail
    refine (CF _ (HB0.out.trans (HB4.out.mono HB0.out.size))).mono ?_
    rintro e w5 ⟨rfl, B5⟩
    have HB5 := Lib.hid (HB4.out.trans (B5.mono HB4.out.size))
    have c5 := HK.out w5 HB5.out
    clear B5
    go_wp2_with fail
    go_ret
    exact ⟨rfl, HB0.out.trans (HB5.out.mono HB0.out.size)⟩
  · rw [layV_no hm] at C1
    generalize l.length = N at *
    clear hh h1 hl
    go_enter Tryd.func9, Tryd.ntmps9
    go_wp2_with fail
    refine (C1 _ HB0.out).mono ?_
    rintro e w1 ⟨rfl, B1⟩
    have HB1 := Lib.hid (show Below w0.heap.size w0 w1 from B1)
    clear B1 C1
    go_wp2_with fail
    refine (C2 _).mono ?_
    rintro e w2 ⟨rfl, B2⟩
    have HB2 := Lib.hid (HB1.out.trans (B2.mono HB1.out.size))
    clear B2
    go_wp2_with fail
    refine (C3 _).mono ?_
    rintro e w3 ⟨rfl, B3⟩
    have HB3 := Lib.hid (HB2.out.trans (B3.mono HB2.out.size))
    clear B3
    go_wp2_with fail
    refine (C4 _).mono ?_
    rintro e w4 ⟨rfl, B4⟩
    have HB4 := Lib.hid (HB3.out.trans (B4.mono HB3.out.size))
    clear B4 c0
    go_wp2_with fail
    refine (CF _ (HB0.out.trans (HB4.out.mono HB0.out.size))).mono ?_
    rintro e w5 ⟨rfl, B5⟩
    have HB5 := Lib.hid (HB4.out.trans (B5.mono HB4.out.size))
    have c5 := HK.out w5 HB5.out
    clear B5
    go_wp2_with fail
    go_ret
    exact ⟨rfl, HB0.out.trans (HB5.out.mono HB0.out.size)⟩

set_option maxRecDepth 100000 in
/-- WHAT THE WALK GIVES, for every argument that can be read. -/
theorem contract (H : Type) (enc : TypeId × Value → H) (W : World) (base : Nat) (args : Array Value) (ds gs : List (DataW H)) (before : List MemPlace)
    (hval : ∀ (j : Nat) t v, Tryd.f9.params[j]? = some t → args[j]? = some v → Value.okWide Tryd.prog W .any base t v)
    (hW : DataW.Whole enc Tryd.prog Tryd.f9.params.toList Rows.tableSizesSpec.vars false W args.toList ds gs before)
    (hreach : (DataW.weightsEach Tryd.prog (Tryd.f9.params.toList) ds).all (· ≤ reachBytes) = true) (hg : GE W) :
    Calls Tryd.prog 9 args W fun e W' => ∃ v, e = .returned v ∧ Rows.tableSizesSpec.post enc Tryd.prog Tryd.f9 false true false false W args v W' := by
  have hW' := hW
  obtain ⟨p, q, hA0, hV, rfl, hfz, hnd⟩ := hW
  have hA : DataW.TrodAll enc Tryd.prog W 0 (fun _ => true) true Tryd.f9.params.toList args.toList ds p := hA0
  rw [Tryd.params9] at hA hval hreach
  obtain ⟨v0, d0, rfl, rfl, h0⟩ := trodAll_one hA
  obtain ⟨rfl, rfl⟩ := trodVars_none hV
  have lt0 : ∀ x ∈ p, x.block < W.heap.size := fun x hx => hW'.lt x (by simp [hx])
  obtain ⟨x0, y0, z0, l0, m0, n0, rfl, k0, r0, q0, t0⟩ := lists_open (hval 0 44 v0 rfl rfl) h0 lt0 (weights_of hreach (j := 0) rfl rfl)
  clear hA0 hval
  simp only [List.append_nil] at hW'
  refine (walk x0 y0 z0 l0 m0 n0 W k0 r0 q0 t0 hg).mono fun e W' ⟨he, hB⟩ => ?_
  subst he
  exact ⟨_, rfl, post_of_below (pa := p) (pv := []) hW' (fun _ _ _ => trodAll_mk1 (shut_bool Tryd.underlying4 _)) (fun sp hsp => trodAll_mk1 (WideElems.Trod_stays laidOut (by kernel_rfl) (of_decide_eq_true (by kernel_rfl)) h0 (fun x hx => hB.same (lt0 x hx)) (fun x hx => hsp x (by simp [hx])))) (fun _ _ => rfl) (by simp) hB (ok_one (by kernel_rfl) rfl (okWide_bool_mk Tryd.underlying4 _))⟩

theorem reads (os : Os) {H : Type} (enc : TypeId × Value → H) : ∃ places, DataW.whole enc Tryd.prog ((laidWorldH os).forCall (fun _ _ => 0) ⟨#[], #[.agg #[.slice none 0 0, .slice none 0 0, .slice none 0 0]], []⟩).memory Tryd.f9.params.toList Rows.tableSizesSpec.vars false (#[.agg #[.slice none 0 0, .slice none 0 0, .slice none 0 0]] : Array Value).toList 8 = some ([.agg [.nil, .nil, .nil]], [], places) :=
  ⟨[], by kernel_rfl⟩

set_option maxRecDepth 100000 in
theorem lifted (os : Os) (started : os.Started) (H : Type) (enc : TypeId × Value → H) (F : Stop.Interp) :
    ReturnsInHanded {} Tryd.checked os 9 .any ((OpenSpec.ofChange Rows.tableSizesSpec).preRow enc Tryd.prog Tryd.f9 Rows.tableSizesRow.domain false Rows.tableSizesRow.laid) (((OpenSpec.ofChange Rows.tableSizesSpec).at F).post enc Tryd.prog Tryd.f9 false true false false) := by
  obtain ⟨places, hx⟩ := reads os enc
  refine returnsInHanded_of_row (C := Tryd.checked) (s := OpenSpec.ofChange Rows.tableSizesSpec) own started (by kernel_rfl) Tryd.func9
    (witness_row_at (enc := enc) (C := Tryd.checked) false (laidWorldH os) #[.agg #[.slice none 0 0, .slice none 0 0, .slice none 0 0]] rfl (by kernel_rfl) (by kernel_rfl) (by kernel_rfl)
      (OpenSpec.preRow_of_cond 8 hx (by kernel_rfl) (fun k hk => by cases hk) (by kernel_rfl) (laid_metH os _))) ?_
  intro W base args ds gs before hval hW _ hcond hreach hL _ _
  obtain ⟨p, q, hA0, hV, hpq, hfz, hnd⟩ := id hW
  obtain ⟨rfl, _⟩ := trodVars_none hV
  rw [List.append_nil] at hreach
  exact contract H enc W base args ds [] before hval hW hreach (handle_of_laid hL)

theorem said : Rows.TableSizesSaid :=
  OpenClaim.holds_of_cond 9 Tryd.f9 rfl rfl rfl rfl rfl rfl rfl ⟨rfl, rfl, rfl, rfl, rfl⟩ rfl rfl rfl rfl rfl (by kernel_rfl) Tryd.func9 (by kernel_rfl)
    (of_decide_eq_true (by kernel_rfl)) (by unfold Func.isWrapper; first | (rw [if_pos (by decide +kernel)]; kernel_rfl) | (rw [if_neg (by decide +kernel)]; exact ⟨rfl, rfl⟩))
    (fun os started H enc _ F => by rw [OpenClaim.pre_eq_preRow]; exact lifted os started H enc F)

theorem plain (f : FuncId) (fn : Func) (hf : Tryd.pinned.checked.prog.funcNamed "stillage/stillagelaw12.TableSizes" = some f) (hfn : Tryd.pinned.checked.prog.funcs[f]? = some fn) :
    true = Tryd.pinned.checked.prog.looks [] ∧ ∀ (j : Nat) t, fn.params[j]? = some t → Tryd.pinned.checked.prog.wantsStandIn t = false := by
  obtain rfl : f = 9 := Option.some.inj ((show Tryd.prog.funcNamed "stillage/stillagelaw12.TableSizes" = some 9 by kernel_rfl).symm.trans hf) |>.symm
  obtain rfl : fn = Tryd.f9 := (Option.some.inj (Tryd.func9.symm.trans hfn)).symm
  refine ⟨by kernel_rfl, fun j t ht => ?_⟩
  rw [Tryd.params9] at ht
  have hm : t ∈ [44] := by simpa using Array.mem_of_getElem? ht
  have hall : ([44].all fun u => !Tryd.prog.wantsStandIn u) = true := by kernel_rfl
  exact (show Tryd.prog.wantsStandIn t = false by simpa using List.all_eq_true.1 hall t hm)

/-- THE CARD -/
theorem card : Rows.TableSizesCardSaid :=
  Claim7.holds_tied_plain_at .later [] _ _ _ _ said (fun _ h => by cases h) (by kernel_rfl) (fun _ h => by cases h) tableSizes_row_tie rfl ⟨rfl, rfl⟩ (by kernel_rfl) rfl plain (by kernel_rfl)


end Go.Proofs.YtffebghkmobeoaaDoor.bsizes

