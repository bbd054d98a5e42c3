/-
  For every text of bounded size: which command's line it is, or that it is none, is what the document's own answer says.
  Conditions: what is handed in holds at most 1048576 values and letters.
-/
import Derived.Test.YtmloljjllmmkoaaDoorCmdO
import Derived.Test.YtmloljjllmmkoaaDoorCmdW
namespace Go.Proofs.YtmloljjllmmkoaaDoor.cparses
open Go.Proofs.YtmloljjllmmkoaaDoor
open Go.ChangeShapes Go.WideShapes Go.ChangeAt Go.RowKit Go

theorem parse_same {s : ByteArray} {e f : Ending} (h : ParseE s e) (g : ParseE s f) : ∃ (d : Cmd) (n : Int), e = .returned (.tuple #[.agg #[.int .i64 d.kind, .string d.path, .string d.dest, .int .i64 d.place, .string d.data], .int .i64 n]) ∧ f = .returned (.tuple #[.agg #[.int .i64 d.kind, .string d.path, .string d.dest, .int .i64 d.place, .string d.data], .int .i64 n]) := by
  rcases h with ⟨d, hd, rfl⟩ | ⟨hn, rfl⟩
  · rcases g with ⟨c, hc, rfl⟩ | ⟨gn, rfl⟩
    · rw [hc.uniq hd]; exact ⟨d, 0, rfl, rfl⟩
    · exact absurd hd (gn _)
  · rcases g with ⟨c, hc, rfl⟩ | ⟨gn, rfl⟩
    · exact absurd hc (hn _)
    · exact ⟨zeroC, 130, rfl, rfl⟩
set_option maxRecDepth 100000 in
set_option maxHeartbeats 4000000 in
theorem walk (s : ByteArray) (W : World) (_hs : s.size ≤ 140737488351232) (hcond : s.data.toList.length + 1 + 0 ≤ 1048576) (hg : GE W) :
    Calls Tryd.prog 5 #[.string s] W fun e W' => e = .returned (.bool true) ∧ Below W.heap.size W W' := by
  have hsz : s.data.toList.length = s.size := Array.length_toList (xs := s.data)
  have HG := Lib.hid (fun w (h : Below W.heap.size W w) => hg.below h)
  have CP := parse_any s (by omega) W hg
  have CR := fun w => rparse_any s (by omega) w
  clear _hs hcond hg hsz
  go_enter Tryd.func5, Tryd.ntmps5
  go_wp2_with fail
  refine CP.mono ?_
  rintro e w1 ⟨hp, hB1⟩
  have HP := Lib.hid hp
  have HB1 := Lib.hid hB1
  obtain ⟨d, n, rfl, _⟩ := parse_same hp hp
  obtain ⟨w2, hw2⟩ : ∃ w2, w1.alloc (CmdObj zeroC) = w2 := ⟨_, rfl⟩
  have ha2 : CmdAt zeroC w1.heap.size w2 := by rw [← hw2]; exact .new _ _
  have hB2 : Below w1.heap.size w1 w2 := by rw [← hw2]; exact (Below.refl _ w1).alloc (Nat.le_refl _) _
  obtain ⟨x1, x2, x3, x4, w3, ⟨e1, e2, e3, e4, e5⟩, ⟨p1, p2, p3, p4, p5⟩, ⟨f1, f2, f3, f4, f5⟩, ha3, hs3⟩ := cmd_store d ha2
  have HA3 := Lib.hid ha3
  have HB3 := Lib.hid ((HB1.out.trans (hB2.mono HB1.out.size)).trans (hs3.below (B := W.heap.size) (fun i hi => by subst hi; exact HB1.out.size) (Nat.le_trans HB1.out.size hB2.size)))
  unfold zeroC at p1 p2 p3 p4 p5
  unfold CmdObj zeroC at hw2
  simp only at p1 p2 p3 p4 p5 hw2
  clear hp hB1 CP ha2 hB2 ha3 hs3
  go_wp2_with fail
  refine (CR _).mono ?_
  rintro e w4 ⟨hr, hB4⟩
  obtain ⟨c, m, h1, rfl⟩ := parse_same HP.out hr
  have h1 : d = c ∧ n = m := by
    injection h1 with h1
    simp at h1
    exact ⟨cmd_ext h1.1.1 h1.1.2.1 h1.1.2.2.1 h1.1.2.2.2.1 h1.1.2.2.2.2, h1.2⟩
  obtain ⟨h2, h3⟩ := h1
  subst h2 h3
  have HB4 := Lib.hid (HB3.out.trans (hB4.mono HB3.out.size))
  have HA4 := Lib.hid (HA3.out.later hB4)
  clear e1 e2 e3 e4 e5 p1 p2 p3 p4 p5 f1 f2 f3 f4 f5 hw2 hr hB4 CR
  obtain ⟨w5, hw5⟩ : ∃ w5, w4.alloc (CmdObj zeroC) = w5 := ⟨_, rfl⟩
  have ha5 : CmdAt zeroC w4.heap.size w5 := by rw [← hw5]; exact .new _ _
  have hB5 : Below w4.heap.size w4 w5 := by rw [← hw5]; exact (Below.refl _ w4).alloc (Nat.le_refl _) _
  obtain ⟨y1, y2, y3, y4, w6, ⟨e1, e2, e3, e4, e5⟩, ⟨p1, p2, p3, p4, p5⟩, ⟨f1, f2, f3, f4, f5⟩, ha6, hs6⟩ := cmd_store d ha5
  have hlt := lt_of_heap HA4.out.obj
  have HA6 := Lib.hid ((HA4.out.later hB5).stir hs6 (by omega))
  have HC6 := Lib.hid ha6
  have HB6 := Lib.hid ((HB4.out.trans (hB5.mono HB4.out.size)).trans (hs6.below (B := W.heap.size) (fun i hi => by subst hi; exact HB4.out.size) (Nat.le_trans HB4.out.size hB5.size)))
  have CF := fixed13_any w6 (HG.out _ HB6.out)
  unfold zeroC at p1 p2 p3 p4 p5
  unfold CmdObj zeroC at hw5
  simp only at p1 p2 p3 p4 p5 hw5
  clear ha5 hB5 ha6 hs6 hlt
  go_wp2_with fail
  refine CF.mono ?_
  rintro e w7 ⟨rfl, hB7⟩
  have HB7 := Lib.hid (HB6.out.trans (hB7.mono HB6.out.size))
  have ha7 := HA6.out.later hB7
  have hc7 := HC6.out.later hB7
  obtain ⟨q0, q1, q2, q3, q4⟩ := ha7.cells
  obtain ⟨r0, r1, r2, r3, r4⟩ := hc7.cells
  clear e1 e2 e3 e4 e5 p1 p2 p3 p4 p5 f1 f2 f3 f4 f5 hw5 hB7 CF ha7 hc7
  go_wp2
  go_ret
  exact ⟨rfl, HB7.out⟩
set_option maxRecDepth 100000 in
/-- WHAT THE WALK GIVES, for every argument that can be read. -/
theorem contract (H : Type) (enc : TypeId × Value → H) (W : World) (base : Nat) (args : Array Value) (ds gs : List (DataW H)) (before : List MemPlace)
    (hval : ∀ (j : Nat) t v, Tryd.f5.params[j]? = some t → args[j]? = some v → Value.okWide Tryd.prog W .any base t v)
    (hW : DataW.Whole enc Tryd.prog Tryd.f5.params.toList Rows.commandParsesSpec.vars false W args.toList ds gs before)
    (hreach : (DataW.weightsEach Tryd.prog (Tryd.f5.params.toList) ds).all (· ≤ reachBytes) = true) (hcond : Rows.uptoBulkAll ds ≤ 1048576) (hg : GE W) :
    Calls Tryd.prog 5 args W fun e W' => ∃ v, e = .returned v ∧ Rows.commandParsesSpec.post enc Tryd.prog Tryd.f5 false true false false W args v W' := by
  have hW' := hW
  obtain ⟨p, q, hA0, hV, rfl, hfz, hnd⟩ := hW
  have hA : DataW.TrodAll enc Tryd.prog W 0 (fun _ => true) true Tryd.f5.params.toList args.toList ds p := hA0
  rw [Tryd.params5] at hA hval hreach
  obtain ⟨v0, d0, rfl, rfl, h0⟩ := trodAll_one hA
  obtain ⟨rfl, rfl⟩ := trodVars_none hV
  obtain ⟨s0, rfl, rfl, rfl, ws0⟩ := Go.ChangeMaps.open_string Tryd.underlying9 (hval 0 9 v0 rfl rfl) h0
  have r0 := reach_size (sized_string hreach (j := 0) rfl rfl)
  clear hA0 hval
  simp only [List.append_nil] at hW'
  simp only [Rows.uptoBulkAll, Rows.uptoBulk] at hcond
  refine (walk s0 W r0 hcond hg).mono fun e W' ⟨he, hB⟩ => ?_
  subst he
  exact ⟨_, rfl, post_of_below (pa := []) (pv := []) hW' (fun _ _ _ => trodAll_mk1 (shut_bool Tryd.underlying4 _)) (fun sp hsp => trodAll_mk1 (Go.ChangeMaps.shut_string Tryd.underlying9 ws0)) (fun _ _ => rfl) (by simp) hB (ok_one (by kernel_rfl) rfl (okWide_bool_mk Tryd.underlying4 _))⟩

theorem reads (os : Os) {H : Type} (enc : TypeId × Value → H) : ∃ places, DataW.whole enc Tryd.prog ((laidWorld os).forCall (fun _ _ => 0) ⟨#[], #[.string ⟨#[]⟩], []⟩).memory Tryd.f5.params.toList Rows.commandParsesSpec.vars false (#[.string ⟨#[]⟩] : Array Value).toList 8 = some ([.lit (.string [])], [], places) :=
  ⟨[], by kernel_rfl⟩

set_option maxRecDepth 100000 in
theorem lifted (os : Os) (started : os.Started) (H : Type) (enc : TypeId × Value → H) (F : Stop.Interp) :
    ReturnsInHanded {} Tryd.checked os 5 .any ((Rows.OpenSpec.upto Rows.commandParsesSpec).preRow enc Tryd.prog Tryd.f5 Rows.commandParsesUptoRow.domain false Rows.commandParsesUptoRow.laid) (((Rows.OpenSpec.upto Rows.commandParsesSpec).at F).post enc Tryd.prog Tryd.f5 false true false false) := by
  obtain ⟨places, hx⟩ := reads os enc
  refine returnsInHanded_of_row (C := Tryd.checked) (s := Rows.OpenSpec.upto Rows.commandParsesSpec) own started (by kernel_rfl) Tryd.func5
    (witness_row_at (enc := enc) (C := Tryd.checked) false (laidWorld os) #[.string ⟨#[]⟩] rfl (by kernel_rfl) (by kernel_rfl) (by kernel_rfl)
      (OpenSpec.preRow_of_cond 8 hx (by kernel_rfl) (fun k hk => by cases hk; kernel_rfl) (by kernel_rfl) (laid_met os _))) ?_
  intro W base args ds gs before hval hW _ hcond hreach hL _ _
  obtain ⟨p, q, hA0, hV, hpq, hfz, hnd⟩ := id hW
  obtain ⟨rfl, _⟩ := trodVars_none hV
  rw [List.append_nil] at hreach
  exact contract H enc W base args ds [] before hval hW hreach (by have h := of_decide_eq_true (hcond _ rfl); simpa using h) (handle_of_laid hL)

theorem said : Rows.CommandParsesUptoSaid :=
  OpenClaim.holds_of_cond 5 Tryd.f5 rfl rfl rfl rfl rfl rfl rfl ⟨rfl, rfl, rfl, rfl, rfl⟩ rfl rfl rfl rfl rfl (by kernel_rfl) Tryd.func5 (by kernel_rfl)
    (of_decide_eq_true (by kernel_rfl)) (by unfold Func.isWrapper; first | (rw [if_pos (by decide +kernel)]; kernel_rfl) | (rw [if_neg (by decide +kernel)]; exact ⟨rfl, rfl⟩))
    (fun os started H enc _ F => by rw [OpenClaim.pre_eq_preRow]; exact lifted os started H enc F)

theorem plain (f : FuncId) (fn : Func) (hf : Tryd.pinned.checked.prog.funcNamed "stillage/stillagelaw13.CommandParses" = some f) (hfn : Tryd.pinned.checked.prog.funcs[f]? = some fn) :
    true = Tryd.pinned.checked.prog.looks [] ∧ ∀ (j : Nat) t, fn.params[j]? = some t → Tryd.pinned.checked.prog.wantsStandIn t = false := by
  obtain rfl : f = 5 := Option.some.inj ((show Tryd.prog.funcNamed "stillage/stillagelaw13.CommandParses" = some 5 by kernel_rfl).symm.trans hf) |>.symm
  obtain rfl : fn = Tryd.f5 := (Option.some.inj (Tryd.func5.symm.trans hfn)).symm
  refine ⟨by kernel_rfl, fun j t ht => ?_⟩
  rw [Tryd.params5] at ht
  have hm : t ∈ [9] := by simpa using Array.mem_of_getElem? ht
  have hall : ([9].all fun u => !Tryd.prog.wantsStandIn u) = true := by kernel_rfl
  exact (show Tryd.prog.wantsStandIn t = false by simpa using List.all_eq_true.1 hall t hm)

/-- THE CARD -/
theorem card : Rows.CommandParsesUptoCardSaid :=
  Claim7.holds_tied_plain_at .later [] _ _ _ _ said (fun _ h => by cases h) (by kernel_rfl) (fun _ h => by cases h) commandParsesUpto_row_tie rfl ⟨rfl, rfl⟩ (by kernel_rfl) rfl plain (by kernel_rfl)


end Go.Proofs.YtmloljjllmmkoaaDoor.cparses

