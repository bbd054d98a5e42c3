/-
  For every text: which names any path has is as the document says; what is told is its owner's.
  Conditions: none besides the row's own.
-/
import Derived.Test.YtmloljjllmmkoaaDoorCmdR
namespace Go.Proofs.YtmloljjllmmkoaaDoor.cpaths
open Go.Proofs.YtmloljjllmmkoaaDoor
open Go.ChangeShapes Go.WideShapes Go.ChangeAt Go.RowKit Go

theorem agree {s : ByteArray} {e : Ending} {w : World} (h : RPathE s e w) : ∃ (M : List ByteArray) (mv : Value) (f : Int), e = .returned (.tuple #[mv, .int .i64 f]) ∧ TextsAt w mv M ∧ M.length ≤ 8 ∧
    ∀ (e' : Ending) (B : Nat) (w' : World), PathE s B e' w' → ∃ v, e' = .returned (.tuple #[v, .int .i64 f]) ∧ w'.ownsRow B 9 1 v M.length (strVs M) := by
  rcases h with ⟨l, v, hl, rfl, ht⟩ | ⟨hn, rfl⟩
  · refine ⟨l, v, 0, rfl, ht, hl.2.1, fun e' B w' h => ?_⟩
    rcases h with ⟨m, v', hm, rfl, hr⟩ | ⟨hn, _⟩
    · obtain rfl := hm.uniq hl
      exact ⟨v', rfl, hr⟩
    · exact absurd hl (hn l)
  · refine ⟨[], _, 130, rfl, ⟨none, 0, rfl, fun h => absurd rfl h⟩, by simp, fun e' B w' h => ?_⟩
    rcases h with ⟨m, _, hm, _⟩ | ⟨_, rfl⟩
    · exact absurd hm (hn m)
    · exact ⟨_, rfl, World.ownsRow_nil _ _ _ _⟩
/-- a row that may be spoilt -/
def SP (N : Nat) (a : Option Addr) (B : Nat) (w : World) : Prop := 0 < N → ∃ (g : Nat) (cur : Array Value), a = some ⟨g, 0, none⟩ ∧ B ≤ g ∧ w.heap[g]? = some (.cells cur 9 (0, 0)) ∧ N ≤ cur.size
set_option maxRecDepth 100000 in
set_option maxHeartbeats 4000000 in
theorem walk (s : ByteArray) (W : World) (hs : s.size ≤ 140737488351232) (hg : GE W) :
    Calls Tryd.prog 3 #[.string s] W fun e W' => e = .returned (.bool true) ∧ Below W.heap.size W W' := by
  have CR := rpath_any s (by omega) W
  have HG := Lib.hid (fun w (h : Below W.heap.size W w) => hg.below h)
  have CP := fun w => path_any s (by omega) w
  clear hg
  go_enter Tryd.func3, Tryd.ntmps3
  go_wp2_with fail
  refine CR.mono ?_
  rintro e w1 ⟨hr, hB1⟩
  obtain ⟨M, mv, f, rfl, ht, hM8, hag⟩ := agree hr
  have HT := Lib.hid (fun w (h : Below w1.heap.size w1 w) => ht.later h)
  have HAg := Lib.hid hag
  have HB1 := Lib.hid hB1
  clear hr ht hag hB1 CR
  go_wp2
  go_loopw [5] (fun t wr => ∃ k : Nat, k ≤ 2 ∧ t = .int .i64 k ∧ Hid (Below w1.heap.size w1 wr)) (fun t _ => 2 - (intOf t).toNat)
  case atStart => exact ⟨0, by omega, rfl, Lib.hid (Below.refl _ _)⟩
  case round =>
    obtain ⟨k, hk, rfl, HB⟩ := hrel
    by_cases hlt : k < 2
    · have hki : (k : Int) < 2 := by omega
      have C := CP wr
      have hszr := HB.out.size
      go_wp2_with fail
      refine C.mono ?_
      rintro e w3 ⟨hp, hB3⟩
      obtain ⟨v, rfl, hrow⟩ := HAg.out _ _ _ hp
      have HB3 := Lib.hid (HB.out.trans (hB3.mono hszr))
      have ht3 := HT.out w3 HB3.out
      have htv := texts_of_row hrow
      have CS := rsame_any htv ht3 (by omega) (by omega)
      simp only [decide_true] at CS
      have HRow := Lib.hid hrow
      clear hp hB3 ht3 htv hrow C
      go_wp2_with fail
      refine CS.mono ?_
      rintro e w4 ⟨rfl, hB4⟩
      have HB4 := Lib.hid (HB3.out.trans (hB4.mono HB3.out.size))
      have hrow4 := owns_keep HRow.out (fun b hb => hB4.block b (HRow.out.lt b hb).2)
      obtain ⟨N, hN⟩ : ∃ N, M.length = N := ⟨_, rfl⟩
      rw [hN] at hrow4
      obtain ⟨a, cap, rfl, hsp⟩ : ∃ a cap, v = .slice a N cap ∧ SP N a w1.heap.size w4 := by
        rcases hrow4.2 with ⟨e1, e2⟩ | ⟨g, cap, cur, e1, h2, h3, h4, h5, h6, h7⟩
        · exact ⟨none, 0, by rw [e1, e2], fun h => absurd h (by omega)⟩
        · exact ⟨_, cap, e1, fun _ => ⟨g, cur, rfl, Nat.le_trans hszr h2, h3, by omega⟩⟩
      have HSP := Lib.hid hsp
      have hN8 : N ≤ 8 := by omega
      clear hB4 hrow4 hsp CS HRow hN
      go_wp2
      go_loopw [8] (fun i wt => ∃ j : Nat, j ≤ N ∧ i = .int .i64 j ∧ Hid (Below w1.heap.size w1 wt) ∧ Hid (SP N a w1.heap.size wt)) (fun i _ => N - (intOf i).toNat)
      case atStart => exact ⟨0, Nat.zero_le _, rfl, HB4, HSP⟩
      case round =>
        obtain ⟨j, hj, rfl, HBt, HSt⟩ := hrel
        by_cases hjl : j < N
        · have hji : (j : Int) < (N : Int) := by omega
          obtain ⟨g, cur, rfl, hgb, hh, hcur⟩ := HSt.out (by omega)
          obtain ⟨x, hx⟩ : ∃ x, cur[j]? = some x := ⟨cur[j]'(by omega), Array.getElem?_eq_getElem (by omega)⟩
          have hcell : wr.cell? ⟨g, j, none⟩ = some x := by simp [World.cell?, hh, hx]
          have hfr : wr.frozen? ⟨g, j, none⟩ = false := by simp [World.frozen?, hh]
          have HN := Lib.hid (show SP N (some ⟨g, 0, none⟩) w1.heap.size (wr.setCell ⟨g, j, none⟩ (.string ⟨#[115, 112, 111, 105, 108, 116]⟩)) from fun _ => ⟨g, _, rfl, hgb, heap_set hh _, by simpa using hcur⟩)
          have HBn := Lib.hid (HBt.out.setCell (p := ⟨g, j, none⟩) hgb (.string ⟨#[115, 112, 111, 105, 108, 116]⟩))
          clear hh hx hcur
          go_wp2
          go_roundw
          case rel => exact ⟨j + 1, hjl, by go_num, HBn, HN⟩
          case measure => simp [intOf]; omega
        · have hji : ¬ (j : Int) < (N : Int) := by omega
          go_wp2
          go_roundw
          case rel => exact ⟨k + 1, by omega, by go_num, HBt⟩
          case measure => simp [intOf]; omega
    · obtain rfl : k = 2 := by omega
      have CF := fixed13_any wr (HG.out _ (HB1.out.trans (HB.out.mono HB1.out.size)))
      have HBw := Lib.hid (HB1.out.trans (HB.out.mono HB1.out.size))
      clear CP
      go_wp2_with fail
      refine CF.mono ?_
      rintro e w5 ⟨rfl, hB5⟩
      have HB5 := Lib.hid (HBw.out.trans (hB5.mono HBw.out.size))
      clear hB5 CF
      go_wp2
      go_ret
      exact ⟨rfl, HB5.out⟩
set_option maxRecDepth 100000 in
/-- WHAT THE WALK GIVES, for every argument that can be read. -/
theorem contract (H : Type) (enc : TypeId × Value → H) (W : World) (base : Nat) (args : Array Value) (ds gs : List (DataW H)) (before : List MemPlace)
    (hval : ∀ (j : Nat) t v, Tryd.f3.params[j]? = some t → args[j]? = some v → Value.okWide Tryd.prog W .any base t v)
    (hW : DataW.Whole enc Tryd.prog Tryd.f3.params.toList Rows.commandPathsSpec.vars false W args.toList ds gs before)
    (hreach : (DataW.weightsEach Tryd.prog (Tryd.f3.params.toList) ds).all (· ≤ reachBytes) = true) (hg : GE W) :
    Calls Tryd.prog 3 args W fun e W' => ∃ v, e = .returned v ∧ Rows.commandPathsSpec.post enc Tryd.prog Tryd.f3 false true false false W args v W' := by
  have hW' := hW
  obtain ⟨p, q, hA0, hV, rfl, hfz, hnd⟩ := hW
  have hA : DataW.TrodAll enc Tryd.prog W 0 (fun _ => true) true Tryd.f3.params.toList args.toList ds p := hA0
  rw [Tryd.params3] at hA hval hreach
  obtain ⟨v0, d0, rfl, rfl, h0⟩ := trodAll_one hA
  obtain ⟨rfl, rfl⟩ := trodVars_none hV
  obtain ⟨s0, rfl, rfl, rfl, ws0⟩ := Go.ChangeMaps.open_string Tryd.underlying9 (hval 0 9 v0 rfl rfl) h0
  have r0 := reach_size (sized_string hreach (j := 0) rfl rfl)
  clear hA0 hval
  simp only [List.append_nil] at hW'
  refine (walk s0 W r0 hg).mono fun e W' ⟨he, hB⟩ => ?_
  subst he
  exact ⟨_, rfl, post_of_below (pa := []) (pv := []) hW' (fun _ _ _ => trodAll_mk1 (shut_bool Tryd.underlying4 _)) (fun sp hsp => trodAll_mk1 (Go.ChangeMaps.shut_string Tryd.underlying9 ws0)) (fun _ _ => rfl) (by simp) hB (ok_one (by kernel_rfl) rfl (okWide_bool_mk Tryd.underlying4 _))⟩

theorem reads (os : Os) {H : Type} (enc : TypeId × Value → H) : ∃ places, DataW.whole enc Tryd.prog ((laidWorld os).forCall (fun _ _ => 0) ⟨#[], #[.string ⟨#[]⟩], []⟩).memory Tryd.f3.params.toList Rows.commandPathsSpec.vars false (#[.string ⟨#[]⟩] : Array Value).toList 8 = some ([.lit (.string [])], [], places) :=
  ⟨[], by kernel_rfl⟩

set_option maxRecDepth 100000 in
theorem lifted (os : Os) (started : os.Started) (H : Type) (enc : TypeId × Value → H) (F : Stop.Interp) :
    ReturnsInHanded {} Tryd.checked os 3 .any ((OpenSpec.ofChange Rows.commandPathsSpec).preRow enc Tryd.prog Tryd.f3 Rows.commandPathsRow.domain false Rows.commandPathsRow.laid) (((OpenSpec.ofChange Rows.commandPathsSpec).at F).post enc Tryd.prog Tryd.f3 false true false false) := by
  obtain ⟨places, hx⟩ := reads os enc
  refine returnsInHanded_of_row (C := Tryd.checked) (s := OpenSpec.ofChange Rows.commandPathsSpec) own started (by kernel_rfl) Tryd.func3
    (witness_row_at (enc := enc) (C := Tryd.checked) false (laidWorld os) #[.string ⟨#[]⟩] rfl (by kernel_rfl) (by kernel_rfl) (by kernel_rfl)
      (OpenSpec.preRow_of_cond 8 hx (by kernel_rfl) (fun k hk => by cases hk) (by kernel_rfl) (laid_met os _))) ?_
  intro W base args ds gs before hval hW _ hcond hreach hL _ _
  obtain ⟨p, q, hA0, hV, hpq, hfz, hnd⟩ := id hW
  obtain ⟨rfl, _⟩ := trodVars_none hV
  rw [List.append_nil] at hreach
  exact contract H enc W base args ds [] before hval hW hreach (handle_of_laid hL)

theorem said : Rows.CommandPathsSaid :=
  OpenClaim.holds_of_cond 3 Tryd.f3 rfl rfl rfl rfl rfl rfl rfl ⟨rfl, rfl, rfl, rfl, rfl⟩ rfl rfl rfl rfl rfl (by kernel_rfl) Tryd.func3 (by kernel_rfl)
    (of_decide_eq_true (by kernel_rfl)) (by unfold Func.isWrapper; first | (rw [if_pos (by decide +kernel)]; kernel_rfl) | (rw [if_neg (by decide +kernel)]; exact ⟨rfl, rfl⟩))
    (fun os started H enc _ F => by rw [OpenClaim.pre_eq_preRow]; exact lifted os started H enc F)

theorem plain (f : FuncId) (fn : Func) (hf : Tryd.pinned.checked.prog.funcNamed "stillage/stillagelaw13.CommandPaths" = some f) (hfn : Tryd.pinned.checked.prog.funcs[f]? = some fn) :
    true = Tryd.pinned.checked.prog.looks [] ∧ ∀ (j : Nat) t, fn.params[j]? = some t → Tryd.pinned.checked.prog.wantsStandIn t = false := by
  obtain rfl : f = 3 := Option.some.inj ((show Tryd.prog.funcNamed "stillage/stillagelaw13.CommandPaths" = some 3 by kernel_rfl).symm.trans hf) |>.symm
  obtain rfl : fn = Tryd.f3 := (Option.some.inj (Tryd.func3.symm.trans hfn)).symm
  refine ⟨by kernel_rfl, fun j t ht => ?_⟩
  rw [Tryd.params3] at ht
  have hm : t ∈ [9] := by simpa using Array.mem_of_getElem? ht
  have hall : ([9].all fun u => !Tryd.prog.wantsStandIn u) = true := by kernel_rfl
  exact (show Tryd.prog.wantsStandIn t = false by simpa using List.all_eq_true.1 hall t hm)

/-- THE CARD -/
theorem card : Rows.CommandPathsCardSaid :=
  Claim7.holds_tied_plain_at .later [] _ _ _ _ said (fun _ h => by cases h) (by kernel_rfl) (fun _ h => by cases h) commandPaths_row_tie rfl ⟨rfl, rfl⟩ (by kernel_rfl) rfl plain (by kernel_rfl)


end Go.Proofs.YtmloljjllmmkoaaDoor.cpaths

