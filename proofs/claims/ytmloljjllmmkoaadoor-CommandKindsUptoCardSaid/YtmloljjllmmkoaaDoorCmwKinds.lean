/-
  For every command of bounded size: a line's first word tells its kind, and how many blanks it has.
  Conditions: what is handed in holds at most 1048576 values and letters.
-/
import Derived.Test.YtmloljjllmmkoaaDoorCmdO
namespace Go.Proofs.YtmloljjllmmkoaaDoor.ckinds
open Go.Proofs.YtmloljjllmmkoaaDoor
open Go.ChangeShapes Go.WideShapes Go.ChangeAt Go.RowKit Go

def blanksK : Nat → Nat
  | 0 => 1 | 1 => 1 | 2 => 3 | 3 => 2 | 4 => 2 | 5 => 2 | 6 => 1 | 7 => 1 | _ => 1
def wordsB : List ByteArray := [⟨#[109, 97, 107, 101, 32]⟩, ⟨#[100, 105, 114, 32]⟩, ⟨#[119, 114, 105, 116, 101, 32]⟩, ⟨#[99, 117, 116, 32]⟩, ⟨#[108, 105, 110, 107, 32]⟩, ⟨#[114, 101, 110, 97, 109, 101, 32]⟩, ⟨#[114, 101, 109, 111, 118, 101, 32]⟩, ⟨#[115, 110, 97, 112, 32]⟩, ⟨#[117, 110, 115, 110, 97, 112, 32]⟩]
def blanksB : List Int := [1, 1, 3, 2, 2, 2, 1, 1, 1]
theorem blanks_words {k : Nat} (hk : k < 9) : ((fldK k).length : Int) = blanksK k := by
  rcases below9 hk with rfl | rfl | rfl | rfl | rfl | rfl | rfl | rfl | rfl <;> rfl
theorem count_line {c : Cmd} {k : Nat} (hk : k < 9) (hm : MayK c k) : (lineK k c).count 32 = blanksK k := by
  have h1 := count_join (c := 32) (ps := wordsC k c) (by simp [wordsC]) (words_noB hk hm)
  rw [fldLay_len] at h1
  have h2 := blanks_words hk
  unfold lineK
  omega
theorem line_front {c : Cmd} {k : Nat} (hk : k < 9) : ∃ r, lineK k c = (wordK k).data.toList ++ 32 :: r := by
  have hne : (fldK k).map (fldLay c) ≠ [] := by
    rcases below9 hk with rfl | rfl | rfl | rfl | rfl | rfl | rfl | rfl | rfl <;> simp [fldK]
  exact ⟨joinB 32 ((fldK k).map (fldLay c)), joinB_cons hne⟩
theorem not_empty {c : Cmd} {k : Nat} (hk : k < 9) (hm : MayK c k) : ∃ r, lineK k c = (wordK k).data.toList ++ 32 :: r ∧ r ≠ [] := by
  have first : ∀ {l : List ByteArray} {p : ByteArray}, p.data.toList ≠ [] → joinB 32 (p :: l) ≠ [] := by
    intro l p hp
    cases l with
    | nil => exact hp
    | cons q r => show p.data.toList ++ _ ≠ []; simp
  have hpath : PathOk c.path → c.path.data.toList ≠ [] := fun ⟨l, h⟩ e => by
    rcases h.2.2 with ⟨_, e2⟩ | ⟨_, e2⟩ <;> (rw [e] at e2; cases e2)
  have hname : NameOk c.path → c.path.data.toList ≠ [] := fun h e => by
    have hs : c.path.data.toList.length = c.path.size := Array.length_toList (xs := c.path.data)
    rw [e] at hs
    have := h.1
    simp at hs
    omega
  rcases below9 hk with rfl | rfl | rfl | rfl | rfl | rfl | rfl | rfl | rfl
  · exact ⟨_, joinB_cons (by simp [fldK]), first (hpath hm.1)⟩
  · exact ⟨_, joinB_cons (by simp [fldK]), first (hpath hm.1)⟩
  · exact ⟨_, joinB_cons (by simp [fldK]), first (hpath hm.1)⟩
  · exact ⟨_, joinB_cons (by simp [fldK]), first (hpath hm.1)⟩
  · exact ⟨_, joinB_cons (by simp [fldK]), first (hpath hm.1)⟩
  · exact ⟨_, joinB_cons (by simp [fldK]), first (hpath hm.1)⟩
  · exact ⟨_, joinB_cons (by simp [fldK]), first (hpath hm.1)⟩
  · exact ⟨_, joinB_cons (by simp [fldK]), first (hname hm.1)⟩
  · exact ⟨_, joinB_cons (by simp [fldK]), first (hname hm.1)⟩
/-- the word with the blank behind it stands ahead -/
theorem front {c : Cmd} {k : Nat} (hk : k < 9) (hm : MayK c k) {x : ByteArray} (hx : x.data.toList = (wordK k).data.toList ++ [32]) : x.size < (bs (lineK k c)).size ∧ (bs (lineK k c)).extract 0 x.size = x := by
  obtain ⟨r, h, hr⟩ := not_empty hk hm
  have hs : x.data.toList.length = x.size := Array.length_toList (xs := x.data)
  have h2 : lineK k c = x.data.toList ++ r := by rw [h, hx]; simp
  have hr0 : 0 < r.length := by cases r with | nil => exact absurd rfl hr | cons _ _ => simp
  refine ⟨by rw [bs_size, h2, List.length_append]; omega, ?_⟩
  apply ba_ext
  rw [Lib.extract_from_zero, bs_list, h2, ← hs, List.take_left']
  rfl
theorem words_at {k : Nat} (hk : k < 9) : ∃ x, wordsB[k]? = some x ∧ x.data.toList = (wordK k).data.toList ++ [32] ∧ x.size ≤ 7 ∧ blanksB[k]? = some (blanksK k : Int) := by
  rcases below9 hk with rfl | rfl | rfl | rfl | rfl | rfl | rfl | rfl | rfl
  all_goals exact ⟨_, rfl, rfl, by decide, rfl⟩
theorem count_step {l : List UInt8} {j : Nat} (h : j < l.length) : (l.take (j + 1)).count 32 = (l.take j).count 32 + if l[j] = 32 then 1 else 0 := by
  rw [List.take_succ_eq_append_getElem h, List.count_append]
  by_cases e : l[j] = 32
  · rw [if_pos e, e]; rfl
  · have h0 : List.count 32 [l[j]] = 0 := List.count_eq_zero.2 (fun k => e (List.mem_singleton.1 k).symm)
    rw [if_neg e, h0]
set_option maxRecDepth 100000 in
set_option maxHeartbeats 4000000 in
theorem walk (c : Cmd) (W : World) (hc : CmdOk c) (hsm : c.path.size + c.dest.size + c.data.size ≤ 1048576) (hg : GE W) :
    Calls Tryd.prog 8 #[cmdV c] W fun e W' => e = .returned (.bool true) ∧ Below W.heap.size W W' := by
  obtain ⟨w1, hw1⟩ : ∃ w1, W.alloc (CmdObj c) = w1 := ⟨_, rfl⟩
  have ha1 : CmdAt c W.heap.size w1 := by rw [← hw1]; exact .new _ _
  have hB1 : Below W.heap.size W w1 := by rw [← hw1]; exact (Below.refl _ W).alloc (Nat.le_refl _) _
  obtain ⟨q0, q1, q2, q3, q4⟩ := ha1.cells
  have HB1 := Lib.hid hB1
  have HA1 := Lib.hid ha1
  have HG := Lib.hid (fun w (h : Below W.heap.size W w) => hg.below h)
  have HLe := Lib.hid (show ∀ k < 9, c.data.size ≤ 512 → (lineK k c).length ≤ 2000000 from fun k hk hd => Nat.le_trans (line_le hk hc.place hd) (by omega))
  have CP := print_any c hc.in_ (fun k hk hd => Nat.le_trans (HLe.out k hk hd) (by decide)) w1 (HG.out _ hB1)
  unfold cmdV at CP ⊢
  unfold CmdObj at hw1
  clear ha1 hB1 hg hc hsm
  go_enter Tryd.func8, Tryd.ntmps8
  go_wp2_with fail
  refine CP.mono ?_
  rintro e w2 ⟨hp, hB2⟩
  have HB2 := Lib.hid (HB1.out.trans (hB2.mono HB1.out.size))
  have HA2 := Lib.hid (HA1.out.later hB2)
  have hsz2 := HB2.out.size
  clear hB2 CP q0 q1 q2 q3 q4 hw1
  rcases hp with ⟨k, hk, hck, hm, rfl⟩ | ⟨hno, rfl⟩
  · obtain ⟨x, hx1, hx2, hx3, hx4⟩ := words_at hk
    obtain ⟨hf1, hf2⟩ := front hk hm hx2
    have HCt := Lib.hid (count_line hk hm)
    have hll := HLe.out k hk (hm.data hk)
    obtain ⟨S, hS⟩ : ∃ S, bs (lineK k c) = S := ⟨_, rfl⟩
    have hSl : S.data.toList = lineK k c := by rw [← hS, bs_list]
    have hSz : S.size ≤ 2000000 := by rw [← hS, bs_size]; exact hll
    rw [hS] at hf1 hf2 ⊢
    rw [← hSl] at HCt
    have HX1 := Lib.hid hx1
    have HX4 := Lib.hid hx4
    have HE := Lib.hid hf2
    have hf1i : (x.size : Int) < (S.size : Int) := by omega
    obtain ⟨w3, hw3⟩ : ∃ w3, w2.alloc (.cells #[.string ⟨#[109, 97, 107, 101, 32]⟩, .string ⟨#[100, 105, 114, 32]⟩, .string ⟨#[119, 114, 105, 116, 101, 32]⟩, .string ⟨#[99, 117, 116, 32]⟩, .string ⟨#[108, 105, 110, 107, 32]⟩, .string ⟨#[114, 101, 110, 97, 109, 101, 32]⟩, .string ⟨#[114, 101, 109, 111, 118, 101, 32]⟩, .string ⟨#[115, 110, 97, 112, 32]⟩, .string ⟨#[117, 110, 115, 110, 97, 112, 32]⟩] 9) = w3 := ⟨_, rfl⟩
    have hx3b : w3.heap[w2.heap.size]? = some (.cells (wordsB.map fun b => Value.string b).toArray 9 (0, 0)) := by rw [← hw3]; exact heap_alloc_new _ _
    have hB3 : Below w2.heap.size w2 w3 := by rw [← hw3]; exact (Below.refl _ w2).alloc (Nat.le_refl _) _
    obtain ⟨w4, hw4⟩ : ∃ w4, w3.alloc (.cells #[.int .i64 1, .int .i64 1, .int .i64 3, .int .i64 2, .int .i64 2, .int .i64 2, .int .i64 1, .int .i64 1, .int .i64 1] 3) = w4 := ⟨_, rfl⟩
    have hx4b : w4.heap[w3.heap.size]? = some (.cells (blanksB.map fun b => Value.int .i64 b).toArray 3 (0, 0)) := by rw [← hw4]; exact heap_alloc_new _ _
    have hB4 : Below w3.heap.size w3 w4 := by rw [← hw4]; exact (Below.refl _ w3).alloc (Nat.le_refl _) _
    have hA4 := (HA2.out.later hB3).later hB4
    obtain ⟨q0, -, -, -, -⟩ := hA4.cells
    rw [hck] at q0
    have HB4 := Lib.hid ((HB2.out.trans (hB3.mono hsz2)).trans (hB4.mono (Nat.le_trans hsz2 hB3.size)))
    have HA4 := Lib.hid hA4
    have h4w := keeps_of hB4 hx3b
    have y1 : w4.cell? ⟨w2.heap.size, k, none⟩ = some (.string x) := by simp [World.cell?, h4w, HX1.out]
    have HY2 := Lib.hid (show ∀ w, Below w4.heap.size w4 w → w.cell? ⟨w3.heap.size, k, none⟩ = some (.int .i64 (blanksK k : Int)) from fun w h => by
      have := keeps_of h hx4b
      simp [World.cell?, this, HX4.out])
    have hki : (k : Int) < 9 := by omega
    have hk0 : ¬ ((k : Int) < 0) := by omega
    have hk9 : ¬ (9 ≤ (k : Int)) := by omega
    have hsz4 := HB4.out.size
    have HCK := Lib.hid hck
    clear hx1 hx2 hx4 hf1 hf2 hS hll hx3b hx4b hB3 hB4 hA4 h4w hm hck hSl
    go_wp2
    clear hw3 hw4 y1 q0
    go_loop [8, 9] (fun n i => ∃ j : Nat, j ≤ S.size ∧ i = .int .i64 j ∧ n = .int .i64 ((S.data.toList.take j).count 32 : Nat)) (fun _ i => S.size - (intOf i).toNat)
    case atStart => exact ⟨0, Nat.zero_le _, rfl, rfl⟩
    case round =>
      obtain ⟨j, hj, rfl, rfl⟩ := hrel
      by_cases hlt : j < S.size
      · have hl : j < S.data.toList.length := by simpa using hlt
        have hji : (j : Int) < (S.size : Int) := by omega
        have HS := Lib.hid (count_step hl)
        have he : S.data.toList[j] = S[j] := rfl
        have hcl : (S.data.toList.take j).count 32 ≤ 2000000 := by
          refine Nat.le_trans List.count_le_length ?_
          rw [List.length_take]; omega
        rw [he] at HS
        generalize (S.data.toList.take j).count 32 = n at *
        by_cases hb : S[j] = 32
        · have hbi : ((S[j].toNat : Int) == 32) = true := by rw [hb]; rfl
          have HS2 := Lib.hid (show (S.data.toList.take (j + 1)).count 32 = n + 1 by rw [HS.out, if_pos hb])
          clear hb he
          go_wp2
          go_round
          case rel => exact ⟨j + 1, hlt, by go_num, by rw [HS2.out]; go_num⟩
          case measure => simp [intOf]; omega
        · have hbi : ((S[j].toNat : Int) == 32) = false := beq_eq_false_iff_ne.2 (fun e => hb (UInt8.toNat_inj.1 (by simpa using Int.ofNat_inj.1 e)))
          have HS2 := Lib.hid (show (S.data.toList.take (j + 1)).count 32 = n by rw [HS.out, if_neg hb]; rfl)
          clear hb he
          go_wp2
          go_round
          case rel => exact ⟨j + 1, hlt, by go_num, by rw [HS2.out]⟩
          case measure => simp [intOf]; omega
      · obtain rfl : j = S.size := by omega
        have ht : S.data.toList.take S.size = S.data.toList := List.take_of_length_le (by simp)
        rw [ht, HCt.out]
        have CF := fixed13_any w4 (HG.out _ HB4.out)
        have hex := HE.out
        have b1 : (x.toList == x.toList) = true := beq_iff_eq.2 rfl
        have hx0 : (0 : Int) ≤ (x.size : Int) := by omega
        have hxl : (x.size : Int) ≤ (S.size : Int) := by omega
        clear ht
        go_wp2_with fail
        refine CF.mono ?_
        rintro e w5 ⟨rfl, hB5⟩
        have hA5 := HA4.out.later hB5
        obtain ⟨q0, -, -, -, -⟩ := hA5.cells
        rw [HCK.out] at q0
        have y2 := HY2.out w5 hB5
        have HB5 := Lib.hid (HB4.out.trans (hB5.mono hsz4))
        clear hB5 CF hA5
        go_wp2
        go_ret
        exact ⟨rfl, HB5.out⟩
  · have CF := fixed13_any w2 (HG.out _ HB2.out)
    clear hno
    go_wp2_with fail
    refine CF.mono ?_
    rintro e w3 ⟨rfl, hB3⟩
    have HB3 := Lib.hid (HB2.out.trans (hB3.mono hsz2))
    clear hB3 CF
    go_wp2
    go_ret
    exact ⟨rfl, HB3.out⟩
set_option maxRecDepth 100000 in
/-- WHAT THE WALK GIVES, for every argument that can be read. -/
theorem contract (H : Type) (enc : TypeId × Value → H) (W : World) (base : Nat) (args : Array Value) (ds gs : List (DataW H)) (before : List MemPlace)
    (hval : ∀ (j : Nat) t v, Tryd.f8.params[j]? = some t → args[j]? = some v → Value.okWide Tryd.prog W .any base t v)
    (hW : DataW.Whole enc Tryd.prog Tryd.f8.params.toList Rows.commandKindsSpec.vars false W args.toList ds gs before)
    (hreach : (DataW.weightsEach Tryd.prog (Tryd.f8.params.toList) ds).all (· ≤ reachBytes) = true) (hcond : Rows.uptoBulkAll ds ≤ 1048576) (hg : GE W) :
    Calls Tryd.prog 8 args W fun e W' => ∃ v, e = .returned v ∧ Rows.commandKindsSpec.post enc Tryd.prog Tryd.f8 false true false false W args v W' := by
  have hW' := hW
  obtain ⟨p, q, hA0, hV, rfl, hfz, hnd⟩ := hW
  have hA : DataW.TrodAll enc Tryd.prog W 0 (fun _ => true) true Tryd.f8.params.toList args.toList ds p := hA0
  rw [Tryd.params8] at hA hval hreach
  obtain ⟨v0, d0, rfl, rfl, h0⟩ := trodAll_one hA
  obtain ⟨rfl, rfl⟩ := trodVars_none hV
  obtain ⟨c0, rfl, r0, rfl, sh0, rfl⟩ := cmd_open (hval 0 30 v0 rfl rfl) h0 hreach (j := 0) rfl rfl
  clear hA0 hval
  simp only [List.append_nil] at hW'
  simp only [Rows.uptoBulkAll] at hcond
  refine (walk c0 W r0 (small_cmd (n := 1048576) (by omega)) hg).mono fun e W' ⟨he, hB⟩ => ?_
  subst he
  exact ⟨_, rfl, post_of_below (pa := []) (pv := []) hW' (fun _ _ _ => trodAll_mk1 (shut_bool Tryd.underlying4 _)) (fun sp hsp => trodAll_mk1 (sh0 _ _)) (fun _ _ => rfl) (by simp) hB (ok_one (by kernel_rfl) rfl (okWide_bool_mk Tryd.underlying4 _))⟩

theorem reads (os : Os) {H : Type} (enc : TypeId × Value → H) : ∃ places, DataW.whole enc Tryd.prog ((laidWorld os).forCall (fun _ _ => 0) ⟨#[], #[.agg #[.int .i64 0, .string ⟨#[]⟩, .string ⟨#[]⟩, .int .i64 0, .string ⟨#[]⟩]], []⟩).memory Tryd.f8.params.toList Rows.commandKindsSpec.vars false (#[.agg #[.int .i64 0, .string ⟨#[]⟩, .string ⟨#[]⟩, .int .i64 0, .string ⟨#[]⟩]] : Array Value).toList 8 = some ([.agg [.lit (.int .i64 0), .lit (.string []), .lit (.string []), .lit (.int .i64 0), .lit (.string [])]], [], places) :=
  ⟨[], by kernel_rfl⟩

set_option maxRecDepth 100000 in
theorem lifted (os : Os) (started : os.Started) (H : Type) (enc : TypeId × Value → H) (F : Stop.Interp) :
    ReturnsInHanded {} Tryd.checked os 8 .any ((Rows.OpenSpec.upto Rows.commandKindsSpec).preRow enc Tryd.prog Tryd.f8 Rows.commandKindsUptoRow.domain false Rows.commandKindsUptoRow.laid) (((Rows.OpenSpec.upto Rows.commandKindsSpec).at F).post enc Tryd.prog Tryd.f8 false true false false) := by
  obtain ⟨places, hx⟩ := reads os enc
  refine returnsInHanded_of_row (C := Tryd.checked) (s := Rows.OpenSpec.upto Rows.commandKindsSpec) own started (by kernel_rfl) Tryd.func8
    (witness_row_at (enc := enc) (C := Tryd.checked) false (laidWorld os) #[.agg #[.int .i64 0, .string ⟨#[]⟩, .string ⟨#[]⟩, .int .i64 0, .string ⟨#[]⟩]] rfl (by kernel_rfl) (by kernel_rfl) (by kernel_rfl)
      (OpenSpec.preRow_of_cond 8 hx (by kernel_rfl) (fun k hk => by cases hk; kernel_rfl) (by kernel_rfl) (laid_met os _))) ?_
  intro W base args ds gs before hval hW _ hcond hreach hL _ _
  obtain ⟨p, q, hA0, hV, hpq, hfz, hnd⟩ := id hW
  obtain ⟨rfl, _⟩ := trodVars_none hV
  rw [List.append_nil] at hreach
  exact contract H enc W base args ds [] before hval hW hreach (by have h := of_decide_eq_true (hcond _ rfl); simpa using h) (handle_of_laid hL)

theorem said : Rows.CommandKindsUptoSaid :=
  OpenClaim.holds_of_cond 8 Tryd.f8 rfl rfl rfl rfl rfl rfl rfl ⟨rfl, rfl, rfl, rfl, rfl⟩ rfl rfl rfl rfl rfl (by kernel_rfl) Tryd.func8 (by kernel_rfl)
    (of_decide_eq_true (by kernel_rfl)) (by unfold Func.isWrapper; first | (rw [if_pos (by decide +kernel)]; kernel_rfl) | (rw [if_neg (by decide +kernel)]; exact ⟨rfl, rfl⟩))
    (fun os started H enc _ F => by rw [OpenClaim.pre_eq_preRow]; exact lifted os started H enc F)

theorem plain (f : FuncId) (fn : Func) (hf : Tryd.pinned.checked.prog.funcNamed "stillage/stillagelaw13.CommandKinds" = some f) (hfn : Tryd.pinned.checked.prog.funcs[f]? = some fn) :
    true = Tryd.pinned.checked.prog.looks [] ∧ ∀ (j : Nat) t, fn.params[j]? = some t → Tryd.pinned.checked.prog.wantsStandIn t = false := by
  obtain rfl : f = 8 := Option.some.inj ((show Tryd.prog.funcNamed "stillage/stillagelaw13.CommandKinds" = some 8 by kernel_rfl).symm.trans hf) |>.symm
  obtain rfl : fn = Tryd.f8 := (Option.some.inj (Tryd.func8.symm.trans hfn)).symm
  refine ⟨by kernel_rfl, fun j t ht => ?_⟩
  rw [Tryd.params8] at ht
  have hm : t ∈ [30] := by simpa using Array.mem_of_getElem? ht
  have hall : ([30].all fun u => !Tryd.prog.wantsStandIn u) = true := by kernel_rfl
  exact (show Tryd.prog.wantsStandIn t = false by simpa using List.all_eq_true.1 hall t hm)

/-- THE CARD -/
theorem card : Rows.CommandKindsUptoCardSaid :=
  Claim7.holds_tied_plain_at .later [] _ _ _ _ said (fun _ h => by cases h) (by kernel_rfl) (fun _ h => by cases h) commandKindsUpto_row_tie rfl ⟨rfl, rfl⟩ (by kernel_rfl) rfl plain (by kernel_rfl)


end Go.Proofs.YtmloljjllmmkoaaDoor.ckinds

