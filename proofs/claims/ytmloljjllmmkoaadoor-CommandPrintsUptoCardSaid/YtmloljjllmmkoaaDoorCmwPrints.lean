/-
  For every command of bounded size: its line, or that it has none, is what the document's own answer says.
  Conditions: what is handed in holds at most 1048576 values and letters.
-/
import Derived.Test.YtmloljjllmmkoaaDoorCmdO
import Derived.Test.YtmloljjllmmkoaaDoorCmdU
namespace Go.Proofs.YtmloljjllmmkoaaDoor.cprints
open Go.Proofs.YtmloljjllmmkoaaDoor
open Go.ChangeShapes Go.WideShapes Go.ChangeAt Go.RowKit Go

theorem print_same {c : Cmd} {e f : Ending} (h : PrintE c e) (g : PrintE c f) : ∃ x n, e = .returned (.tuple #[.string x, .int .i64 n]) ∧ f = .returned (.tuple #[.string x, .int .i64 n]) := by
  rcases h with ⟨k, h1, h2, h3, rfl⟩ | ⟨h, rfl⟩
  · rcases g with ⟨j, g1, g2, g3, rfl⟩ | ⟨g, rfl⟩
    · have : (j : Int) = k := by rw [← g2, h2]
      obtain rfl : j = k := by omega
      exact ⟨_, _, rfl, rfl⟩
    · exact absurd ⟨k, h1, h2, h3⟩ g
  · rcases g with ⟨j, g1, g2, g3, rfl⟩ | ⟨g, rfl⟩
    · exact absurd ⟨j, g1, g2, g3⟩ h
    · exact ⟨_, _, rfl, rfl⟩
set_option maxRecDepth 100000 in
set_option maxHeartbeats 4000000 in
theorem walk (c : Cmd) (W : World) (hc : CmdOk c) (hsm : c.path.size + c.dest.size + c.data.size ≤ 1048576) (hg : GE W) :
    Calls Tryd.prog 4 #[cmdV c] W fun e W' => e = .returned (.bool true) ∧ Below W.heap.size W W' := by
  obtain ⟨w1, hw1⟩ : ∃ w1, W.alloc (CmdObj c) = w1 := ⟨_, rfl⟩
  have ha1 : CmdAt c W.heap.size w1 := by rw [← hw1]; exact .new _ _
  have hB1 : Below W.heap.size W w1 := by rw [← hw1]; exact (Below.refl _ W).alloc (Nat.le_refl _) _
  obtain ⟨q0, q1, q2, q3, q4⟩ := ha1.cells
  have HB1 := Lib.hid hB1
  have HA1 := Lib.hid ha1
  have HG := Lib.hid (fun w (h : Below W.heap.size W w) => hg.below h)
  have CP := print_any c hc.in_ (fun k hk hd => Nat.le_trans (line_le hk hc.place hd) (by omega)) w1 (HG.out _ hB1)
  have CR := fun w => rprint_any c hsm w
  unfold cmdV at CP CR ⊢
  unfold CmdObj at hw1
  clear ha1 hB1 hg hc hsm
  go_enter Tryd.func4, Tryd.ntmps4
  go_wp2_with fail
  refine CP.mono ?_
  rintro e w2 ⟨hp, hB2⟩
  have HP := Lib.hid hp
  obtain ⟨x, n, rfl, _⟩ := print_same hp hp
  have HB2 := Lib.hid (HB1.out.trans (hB2.mono HB1.out.size))
  have ha2 := HA1.out.later hB2
  clear hB2 CP q0 q1 q2 q3 q4 hw1 hp
  obtain ⟨q0, q1, q2, q3, q4⟩ := ha2.cells
  clear ha2
  go_wp2_with fail
  refine (CR _).mono ?_
  rintro e w3 ⟨hr, hB3⟩
  have HB3 := Lib.hid (HB2.out.trans (hB3.mono HB2.out.size))
  obtain ⟨y, m, h1, rfl⟩ := print_same HP.out hr
  obtain ⟨rfl, rfl⟩ : x = y ∧ n = m := by
    injection h1 with h1
    simpa using h1
  have CF := fixed13_any w3 (HG.out _ HB3.out)
  have b1 : (x.toList == x.toList) = true := beq_iff_eq.2 rfl
  clear hr hB3 CR h1 q0 q1 q2 q3 q4
  go_wp2_with fail
  refine CF.mono ?_
  rintro e w4 ⟨rfl, hB4⟩
  have HB4 := Lib.hid (HB3.out.trans (hB4.mono HB3.out.size))
  clear hB4 CF
  go_wp2
  go_ret
  exact ⟨rfl, HB4.out⟩
set_option maxRecDepth 100000 in
/-- WHAT THE WALK GIVES, for every argument that can be read. -/
theorem contract (H : Type) (enc : TypeId × Value → H) (W : World) (base : Nat) (args : Array Value) (ds gs : List (DataW H)) (before : List MemPlace)
    (hval : ∀ (j : Nat) t v, Tryd.f4.params[j]? = some t → args[j]? = some v → Value.okWide Tryd.prog W .any base t v)
    (hW : DataW.Whole enc Tryd.prog Tryd.f4.params.toList Rows.commandPrintsSpec.vars false W args.toList ds gs before)
    (hreach : (DataW.weightsEach Tryd.prog (Tryd.f4.params.toList) ds).all (· ≤ reachBytes) = true) (hcond : Rows.uptoBulkAll ds ≤ 1048576) (hg : GE W) :
    Calls Tryd.prog 4 args W fun e W' => ∃ v, e = .returned v ∧ Rows.commandPrintsSpec.post enc Tryd.prog Tryd.f4 false true false false W args v W' := by
  have hW' := hW
  obtain ⟨p, q, hA0, hV, rfl, hfz, hnd⟩ := hW
  have hA : DataW.TrodAll enc Tryd.prog W 0 (fun _ => true) true Tryd.f4.params.toList args.toList ds p := hA0
  rw [Tryd.params4] at hA hval hreach
  obtain ⟨v0, d0, rfl, rfl, h0⟩ := trodAll_one hA
  obtain ⟨rfl, rfl⟩ := trodVars_none hV
  obtain ⟨c0, rfl, r0, rfl, sh0, rfl⟩ := cmd_open (hval 0 30 v0 rfl rfl) h0 hreach (j := 0) rfl rfl
  clear hA0 hval
  simp only [List.append_nil] at hW'
  simp only [Rows.uptoBulkAll] at hcond
  refine (walk c0 W r0 (small_cmd (n := 1048576) (by omega)) hg).mono fun e W' ⟨he, hB⟩ => ?_
  subst he
  exact ⟨_, rfl, post_of_below (pa := []) (pv := []) hW' (fun _ _ _ => trodAll_mk1 (shut_bool Tryd.underlying4 _)) (fun sp hsp => trodAll_mk1 (sh0 _ _)) (fun _ _ => rfl) (by simp) hB (ok_one (by kernel_rfl) rfl (okWide_bool_mk Tryd.underlying4 _))⟩

theorem reads (os : Os) {H : Type} (enc : TypeId × Value → H) : ∃ places, DataW.whole enc Tryd.prog ((laidWorld os).forCall (fun _ _ => 0) ⟨#[], #[.agg #[.int .i64 0, .string ⟨#[]⟩, .string ⟨#[]⟩, .int .i64 0, .string ⟨#[]⟩]], []⟩).memory Tryd.f4.params.toList Rows.commandPrintsSpec.vars false (#[.agg #[.int .i64 0, .string ⟨#[]⟩, .string ⟨#[]⟩, .int .i64 0, .string ⟨#[]⟩]] : Array Value).toList 8 = some ([.agg [.lit (.int .i64 0), .lit (.string []), .lit (.string []), .lit (.int .i64 0), .lit (.string [])]], [], places) :=
  ⟨[], by kernel_rfl⟩

set_option maxRecDepth 100000 in
theorem lifted (os : Os) (started : os.Started) (H : Type) (enc : TypeId × Value → H) (F : Stop.Interp) :
    ReturnsInHanded {} Tryd.checked os 4 .any ((Rows.OpenSpec.upto Rows.commandPrintsSpec).preRow enc Tryd.prog Tryd.f4 Rows.commandPrintsUptoRow.domain false Rows.commandPrintsUptoRow.laid) (((Rows.OpenSpec.upto Rows.commandPrintsSpec).at F).post enc Tryd.prog Tryd.f4 false true false false) := by
  obtain ⟨places, hx⟩ := reads os enc
  refine returnsInHanded_of_row (C := Tryd.checked) (s := Rows.OpenSpec.upto Rows.commandPrintsSpec) own started (by kernel_rfl) Tryd.func4
    (witness_row_at (enc := enc) (C := Tryd.checked) false (laidWorld os) #[.agg #[.int .i64 0, .string ⟨#[]⟩, .string ⟨#[]⟩, .int .i64 0, .string ⟨#[]⟩]] rfl (by kernel_rfl) (by kernel_rfl) (by kernel_rfl)
      (OpenSpec.preRow_of_cond 8 hx (by kernel_rfl) (fun k hk => by cases hk; kernel_rfl) (by kernel_rfl) (laid_met os _))) ?_
  intro W base args ds gs before hval hW _ hcond hreach hL _ _
  obtain ⟨p, q, hA0, hV, hpq, hfz, hnd⟩ := id hW
  obtain ⟨rfl, _⟩ := trodVars_none hV
  rw [List.append_nil] at hreach
  exact contract H enc W base args ds [] before hval hW hreach (by have h := of_decide_eq_true (hcond _ rfl); simpa using h) (handle_of_laid hL)

theorem said : Rows.CommandPrintsUptoSaid :=
  OpenClaim.holds_of_cond 4 Tryd.f4 rfl rfl rfl rfl rfl rfl rfl ⟨rfl, rfl, rfl, rfl, rfl⟩ rfl rfl rfl rfl rfl (by kernel_rfl) Tryd.func4 (by kernel_rfl)
    (of_decide_eq_true (by kernel_rfl)) (by unfold Func.isWrapper; first | (rw [if_pos (by decide +kernel)]; kernel_rfl) | (rw [if_neg (by decide +kernel)]; exact ⟨rfl, rfl⟩))
    (fun os started H enc _ F => by rw [OpenClaim.pre_eq_preRow]; exact lifted os started H enc F)

theorem plain (f : FuncId) (fn : Func) (hf : Tryd.pinned.checked.prog.funcNamed "stillage/stillagelaw13.CommandPrints" = some f) (hfn : Tryd.pinned.checked.prog.funcs[f]? = some fn) :
    true = Tryd.pinned.checked.prog.looks [] ∧ ∀ (j : Nat) t, fn.params[j]? = some t → Tryd.pinned.checked.prog.wantsStandIn t = false := by
  obtain rfl : f = 4 := Option.some.inj ((show Tryd.prog.funcNamed "stillage/stillagelaw13.CommandPrints" = some 4 by kernel_rfl).symm.trans hf) |>.symm
  obtain rfl : fn = Tryd.f4 := (Option.some.inj (Tryd.func4.symm.trans hfn)).symm
  refine ⟨by kernel_rfl, fun j t ht => ?_⟩
  rw [Tryd.params4] at ht
  have hm : t ∈ [30] := by simpa using Array.mem_of_getElem? ht
  have hall : ([30].all fun u => !Tryd.prog.wantsStandIn u) = true := by kernel_rfl
  exact (show Tryd.prog.wantsStandIn t = false by simpa using List.all_eq_true.1 hall t hm)

/-- THE CARD -/
theorem card : Rows.CommandPrintsUptoCardSaid :=
  Claim7.holds_tied_plain_at .later [] _ _ _ _ said (fun _ h => by cases h) (by kernel_rfl) (fun _ h => by cases h) commandPrintsUpto_row_tie rfl ⟨rfl, rfl⟩ (by kernel_rfl) rfl plain (by kernel_rfl)


end Go.Proofs.YtmloljjllmmkoaaDoor.cprints

