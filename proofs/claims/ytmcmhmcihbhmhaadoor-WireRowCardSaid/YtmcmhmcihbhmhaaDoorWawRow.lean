/-
  A row of numbers are the bytes of how many there are, and of each: for every list of numbers.
  Conditions: those of its row (the variable errors.errorType lies as the program's text lays it: the card ties it).
-/
import Derived.Test.YtmcmhmcihbhmhaaDoorWirK
import Derived.Test.YtmcmhmcihbhmhaaDoorWirM
namespace Go.Proofs.YtmcmhmcihbhmhaaDoor.row
open Go.ChangeShapes Go.WideShapes Go.ChangeAt Go.RowKit Go

theorem ret_bool {b c : Bool} (h : b = c) : Ending.returned (.bool b) = .returned (.bool c) := by rw [h]
/-- a number's bytes, none of one that has none -/
def one (z : Int) : List UInt8 := if bad z then [] else dg z.toNat
def rowL (zs : List Int) : List UInt8 := zs.flatMap one
theorem rowL_snoc (a : List Int) (z : Int) : rowL (a ++ [z]) = rowL a ++ one z := by simp [rowL]
theorem one_len (z : Int) : (one z).length ≤ 9 := by
  unfold one
  cases hb : bad z with
  | true => simp
  | false =>
    have := good_of hb
    rw [if_neg (by simp)]
    exact dg_9 (by omega)
theorem rowL_len : ∀ l : List Int, (rowL l).length ≤ 9 * l.length
  | [] => by simp [rowL]
  | z :: l => by
    have h1 := one_len z
    have h2 := rowL_len l
    simp [rowL] at h2 ⊢; omega
theorem rowL_good : ∀ l : List Int, l.any bad = false → rowL l = layL (l.map Int.toNat)
  | [], _ => rfl
  | z :: l, h => by
    simp only [List.any_cons, Bool.or_eq_false_iff] at h
    have := rowL_good l h.2
    simp [rowL, layL, one, h.1] at this ⊢
    exact this
theorem numW_bad {n : Int} (h : bad n = true) : numW n = .tuple #[.string ⟨#[]⟩, .int .i64 31] := by unfold numW; rw [h]; rfl
theorem numW_good {n : Int} (h : bad n = false) : numW n = .tuple #[.string (bs (dg n.toNat)), .int .i64 0] := by unfold numW; rw [h]; rfl
theorem numsW_good {zs : List Int} (h : zs.length ≤ 65536) (h2 : zs.any bad = false) : numsW zs = .tuple #[.string (bs (dg zs.length ++ rowL zs)), .int .i64 0] := by
  unfold numsW; rw [if_pos ⟨h, h2⟩, rowL_good zs h2]
theorem numsW_bad {zs : List Int} (h : ¬ (zs.length ≤ 65536 ∧ zs.any bad = false)) : numsW zs = .tuple #[.string ⟨#[]⟩, .int .i64 31] := if_neg h
theorem any_snoc (a : List Int) (z : Int) : (a ++ [z]).any bad = (a.any bad || bad z) := by simp

set_option maxRecDepth 100000 in
set_option maxHeartbeats 4000000 in
/-- the row, number by number -/
theorem walk_short (v : Value) (zs : List Int) (w : World) (hI : IntsAt w v zs) (hz : zs.length ≤ 65536) (hg : GE w) (S : ByteArray) (e0 : Int)
    (hS : zs.any bad = false ∧ S = bs (dg zs.length ++ rowL zs) ∧ e0 = 0 ∨ zs.any bad = true ∧ S = ⟨#[]⟩ ∧ e0 = 31) (hnw : numsW zs = .tuple #[.string S, .int .i64 e0]) :
    Calls Tryd.prog 10 #[v] w fun r w' => r = .returned (.bool true) ∧ Below w.heap.size w w' := by
  have C1 := wnums_any v zs (by omega) w hI
  rw [hnw] at C1
  obtain ⟨a, cap, rfl, ha⟩ := hI
  have HA := Lib.hid ha
  have HS := Lib.hid hS
  have hzi : (zs.length : Int) ≤ 65536 := by omega
  have C2 := fun w => wnum_any (zs.length : Int) w
  rw [show numW (zs.length : Int) = .tuple #[.string (bs (dg zs.length)), .int .i64 0] from numW_good (by simp [bad]; omega)] at C2
  have hd := dg_9 (n := zs.length) (by omega)
  clear ha hS hnw
  go_enter Tryd.func10, Tryd.ntmps10
  go_wp2_with fail
  refine C1.mono ?_
  rintro e w1 ⟨rfl, B1⟩
  go_wp2_with fail
  refine (C2 _).mono ?_
  rintro e w2 ⟨rfl, K⟩
  have B2 := B1.trans (K.mono B1.size)
  have HB2 := Lib.hid B2
  clear B1 K B2 C1 C2
  go_wp2_with fail
  go_loopw [5, 6, 8] (fun t f i wr => ∃ (k : Nat) (l : List UInt8) (T : ByteArray) (f0 : Int), k ≤ zs.length ∧ i = .int .i64 k ∧ t = .string T ∧ f = .int .i64 f0 ∧ T = bs l ∧ l = dg zs.length ++ rowL (zs.take k) ∧ f0 = (if (zs.take k).any bad then 31 else 0) ∧ Below w.heap.size w wr) (fun _ _ i _ => zs.length - (intOf i).toNat)
  case atStart => exact ⟨0, dg zs.length, _, 0, Nat.zero_le _, rfl, rfl, rfl, rfl, by simp [rowL], rfl, HB2.out⟩
  case round =>
    clear HB2
    obtain ⟨k, l, T, f0, hk, rfl, rfl, rfl, hT, hl, hf, hB⟩ := hrel
    have HT := Lib.hid hT
    have HL := Lib.hid hl
    have HF := Lib.hid hf
    have HB := Lib.hid hB
    have hTs : T.size ≤ 9 * (zs.length + 1) := by
      have h1 := rowL_len (zs.take k)
      rw [List.length_take] at h1
      rw [hT, bs_size, hl, List.length_append]; omega
    clear hT hl hf hB
    by_cases hlt : k < zs.length
    · obtain ⟨b, off, rfl, hb, hc⟩ := HA.out (by intro e; rw [e] at hlt; exact absurd hlt (by simp))
      have hcell : wr.cell? ⟨b, off + k, none⟩ = some (.int .i64 zs[k]) := (HB.out.cell (p := ⟨b, off + k, none⟩) hb).trans (hc k hlt)
      have hk1 : (k : Int) < (zs.length : Int) := by omega
      have HN := Lib.hid (show rowL (zs.take (k + 1)) = rowL (zs.take k) ++ one zs[k] by rw [List.take_succ_eq_append_getElem hlt, rowL_snoc])
      have HM := Lib.hid (show (zs.take (k + 1)).any bad = ((zs.take k).any bad || bad zs[k]) by rw [List.take_succ_eq_append_getElem hlt, any_snoc])
      generalize zs[k] = z at *
      have C := fun w => wnum_any z w
      clear hc
      cases hbz : bad z with
      | true =>
        rw [numW_bad hbz] at C
        have HX := Lib.hid (show one z = [] by unfold one; rw [if_pos hbz])
        have HY := Lib.hid (show (zs.take (k + 1)).any bad = true by rw [HM.out, hbz]; simp)
        have hT0 : T ++ ⟨#[]⟩ = T := by apply ByteArray.ext; simp
        clear hbz HM
        go_wp2_with fail
        refine (C _).mono ?_
        rintro e w3 ⟨rfl, K⟩
        have HB3 := Lib.hid (HB.out.trans (K.mono HB.out.size))
        clear K HB C
        go_wp2
        go_roundw
        case rel => exact ⟨k + 1, l, T, 31, by omega, by go_num, rfl, rfl, HT.out, by rw [HN.out, HX.out, List.append_nil]; exact HL.out, by rw [HY.out]; rfl, HB3.out⟩
        case measure => simp [intOf]; omega
      | false =>
        rw [numW_good hbz] at C
        have h9 := one_len z
        have hone : one z = dg z.toNat := by unfold one; rw [if_neg (by rw [hbz]; simp)]
        have hDs : (bs (dg z.toNat)).size ≤ 9 := by rw [bs_size, ← hone]; exact h9
        have HX := Lib.hid hone
        have HY := Lib.hid (show (zs.take (k + 1)).any bad = (zs.take k).any bad by rw [HM.out, hbz]; simp)
        have HZ := Lib.hid (show T ++ bs (dg z.toNat) = bs (l ++ dg z.toNat) by rw [HT.out, bs_append])
        have nsum : ¬ 9223372036854775807 < T.size + (bs (dg z.toNat)).size := by omega
        clear hbz HM h9 hone
        generalize dg z.toNat = d at *
        generalize bs d = D at *
        go_wp2_with fail
        refine (C _).mono ?_
        rintro e w3 ⟨rfl, K⟩
        have HB3 := Lib.hid (HB.out.trans (K.mono HB.out.size))
        clear K HB C
        go_wp2
        go_roundw
        case rel => exact ⟨k + 1, l ++ d, T ++ D, f0, by omega, by go_num, rfl, rfl, HZ.out, by rw [HN.out, HX.out, HL.out, List.append_assoc], by rw [HY.out]; exact HF.out, HB3.out⟩
        case measure => simp [intOf]; omega
    · obtain rfl : k = zs.length := by omega
      have hg1 := hg.below HB.out
      have hTL := HT.out
      rw [HL.out, List.take_length] at hTL
      have hf := HF.out
      rw [List.take_length] at hf
      clear HT HL HF hTs
      rcases HS.out with ⟨h1, h2, h3⟩ | ⟨h1, h2, h3⟩
      · rw [h1] at hf
        have hTS : T = S := by rw [hTL, h2]
        subst hTS
        obtain rfl : f0 = 0 := hf
        subst h3
        clear hTL h2 h1 HS
        go_wp2_with fail
        refine (fixed_any _ hg1).mono ?_
        rintro e w5 ⟨rfl, K⟩
        go_wp2_with fail
        go_ret
        exact ⟨ret_bool (by simp), HB.out.trans (K.mono HB.out.size)⟩
      · rw [h1] at hf
        obtain rfl : f0 = 31 := hf
        subst h2
        subst h3
        clear hTL h1 HS
        go_wp2_with fail
        refine (fixed_any _ hg1).mono ?_
        rintro e w5 ⟨rfl, K⟩
        go_wp2_with fail
        go_ret
        exact ⟨rfl, HB.out.trans (K.mono HB.out.size)⟩

set_option maxRecDepth 100000 in
set_option maxHeartbeats 4000000 in
theorem walk (v : Value) (zs : List Int) (w : World) (hI : IntsAt w v zs) (hz : zs.length ≤ 140737488351232) (hg : GE w) :
    Calls Tryd.prog 10 #[v] w fun r w' => r = .returned (.bool true) ∧ Below w.heap.size w w' := by
  by_cases hl : zs.length ≤ 65536
  · cases hb : zs.any bad with
    | false => exact walk_short v zs w hI hl hg _ _ (Or.inl ⟨hb, rfl, rfl⟩) (numsW_good hl hb)
    | true => exact walk_short v zs w hI hl hg _ _ (Or.inr ⟨hb, rfl, rfl⟩) (numsW_bad (fun e => by rw [hb] at e; cases e.2))
  · have C1 := wnums_any v zs (by omega) w hI
    rw [numsW_bad (fun e => hl e.1)] at C1
    obtain ⟨a, cap, rfl, -⟩ := hI
    have hl1 : (65536 : Int) < (zs.length : Int) := by omega
    clear hl
    go_enter Tryd.func10, Tryd.ntmps10
    go_wp2_with fail
    refine C1.mono ?_
    rintro e w1 ⟨rfl, B1⟩
    have hg1 := hg.below B1
    go_wp2_with fail
    refine (fixed_any _ hg1).mono ?_
    rintro e w2 ⟨rfl, K⟩
    go_wp2_with fail
    go_ret
    exact ⟨rfl, B1.trans (K.mono B1.size)⟩

set_option maxRecDepth 100000 in
/-- WHAT THE WALK GIVES, for every argument that can be read. -/
theorem contract (H : Type) (enc : TypeId × Value → H) (W : World) (base : Nat) (args : Array Value) (ds gs : List (DataW H)) (before : List MemPlace)
    (hval : ∀ (j : Nat) t v, Tryd.f10.params[j]? = some t → args[j]? = some v → Value.okWide Tryd.prog W .any base t v)
    (hW : DataW.Whole enc Tryd.prog Tryd.f10.params.toList Rows.wireRowSpec.vars false W args.toList ds gs before)
    (hreach : (DataW.weightsEach Tryd.prog (Tryd.f10.params.toList) ds).all (· ≤ reachBytes) = true) (hg : GE W) :
    Calls Tryd.prog 10 args W fun e W' => ∃ v, e = .returned v ∧ Rows.wireRowSpec.post enc Tryd.prog Tryd.f10 false true false false W args v W' := by
  have hW' := hW
  obtain ⟨p, q, hA0, hV, rfl, hfz, hnd⟩ := hW
  have hA : DataW.TrodAll enc Tryd.prog W 0 (fun _ => true) true Tryd.f10.params.toList args.toList ds p := hA0
  rw [Tryd.params10] at hA hval hreach
  obtain ⟨v0, d0, rfl, rfl, h0⟩ := trodAll_one hA
  obtain ⟨rfl, rfl⟩ := trodVars_none hV
  have lt0 : ∀ x ∈ p, x.block < W.heap.size := fun x hx => hW'.lt x (by simp [hx])
  obtain ⟨l0, k0, r0⟩ := ints_open (hval 0 22 v0 rfl rfl) h0 lt0 hreach (j := 0) rfl rfl
  clear hA0 hval
  simp only [List.append_nil] at hW'
  refine (walk v0 l0 W k0 r0 hg).mono fun e W' ⟨he, hB⟩ => ?_
  subst he
  exact ⟨_, rfl, post_of_below (pa := p) (pv := []) hW' (fun _ _ _ => trodAll_mk1 (shut_bool Tryd.underlying4 _)) (fun sp hsp => trodAll_mk1 (WideElems.Trod_stays laidOut (by kernel_rfl) (of_decide_eq_true (by kernel_rfl)) h0 (fun x hx => hB.same (lt0 x hx)) (fun x hx => hsp x (by simp [hx])))) (fun _ _ => rfl) (by simp) hB (ok_one (by kernel_rfl) rfl (okWide_bool_mk Tryd.underlying4 _))⟩

theorem reads (os : Os) {H : Type} (enc : TypeId × Value → H) : ∃ places, DataW.whole enc Tryd.prog ((laidWorld os).forCall (fun _ _ => 0) ⟨#[], #[.slice none 0 0], []⟩).memory Tryd.f10.params.toList Rows.wireRowSpec.vars false (#[.slice none 0 0] : Array Value).toList 8 = some ([.nil], [], places) :=
  ⟨[], by kernel_rfl⟩

set_option maxRecDepth 100000 in
theorem lifted (os : Os) (started : os.Started) (H : Type) (enc : TypeId × Value → H) (F : Stop.Interp) :
    ReturnsInHanded {} Tryd.checked os 10 .any ((OpenSpec.ofChange Rows.wireRowSpec).preRow enc Tryd.prog Tryd.f10 Rows.wireRowRow.domain false Rows.wireRowRow.laid) (((OpenSpec.ofChange Rows.wireRowSpec).at F).post enc Tryd.prog Tryd.f10 false true false false) := by
  obtain ⟨places, hx⟩ := reads os enc
  refine returnsInHanded_of_row (C := Tryd.checked) (s := OpenSpec.ofChange Rows.wireRowSpec) own started (by kernel_rfl) Tryd.func10
    (witness_row_at (enc := enc) (C := Tryd.checked) false (laidWorld os) #[.slice none 0 0] rfl (by kernel_rfl) (by kernel_rfl) (by kernel_rfl)
      (OpenSpec.preRow_of_cond 8 hx (by kernel_rfl) (fun k hk => by cases hk) (by kernel_rfl) (laid_met os _))) ?_
  intro W base args ds gs before hval hW _ hcond hreach hL _ _
  obtain ⟨p, q, hA0, hV, hpq, hfz, hnd⟩ := id hW
  obtain ⟨rfl, _⟩ := trodVars_none hV
  rw [List.append_nil] at hreach
  exact contract H enc W base args ds [] before hval hW hreach (handle_of_laid hL)

theorem said : Rows.WireRowSaid :=
  OpenClaim.holds_of_cond 10 Tryd.f10 rfl rfl rfl rfl rfl rfl rfl ⟨rfl, rfl, rfl, rfl, rfl⟩ rfl rfl rfl rfl rfl (by kernel_rfl) Tryd.func10 (by kernel_rfl)
    (of_decide_eq_true (by kernel_rfl)) (by unfold Func.isWrapper; first | (rw [if_pos (by decide +kernel)]; kernel_rfl) | (rw [if_neg (by decide +kernel)]; exact ⟨rfl, rfl⟩))
    (fun os started H enc _ F => by rw [OpenClaim.pre_eq_preRow]; exact lifted os started H enc F)

theorem plain (f : FuncId) (fn : Func) (hf : Tryd.pinned.checked.prog.funcNamed "stillage/stillagelaw03.WireRow" = some f) (hfn : Tryd.pinned.checked.prog.funcs[f]? = some fn) :
    true = Tryd.pinned.checked.prog.looks [] ∧ ∀ (j : Nat) t, fn.params[j]? = some t → Tryd.pinned.checked.prog.wantsStandIn t = false := by
  obtain rfl : f = 10 := Option.some.inj ((show Tryd.prog.funcNamed "stillage/stillagelaw03.WireRow" = some 10 by kernel_rfl).symm.trans hf) |>.symm
  obtain rfl : fn = Tryd.f10 := (Option.some.inj (Tryd.func10.symm.trans hfn)).symm
  refine ⟨by kernel_rfl, fun j t ht => ?_⟩
  rw [Tryd.params10] at ht
  have hm : t ∈ [22] := by simpa using Array.mem_of_getElem? ht
  have hall : ([22].all fun u => !Tryd.prog.wantsStandIn u) = true := by kernel_rfl
  exact (show Tryd.prog.wantsStandIn t = false by simpa using List.all_eq_true.1 hall t hm)

/-- THE CARD -/
theorem card : Rows.WireRowCardSaid :=
  Claim7.holds_tied_plain_at .later [] _ _ _ _ said (fun _ h => by cases h) (by kernel_rfl) (fun _ h => by cases h) wireRow_row_tie rfl ⟨rfl, rfl⟩ (by kernel_rfl) rfl plain (by kernel_rfl)

end Go.Proofs.YtmcmhmcihbhmhaaDoor.row
