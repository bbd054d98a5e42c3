/-
  Of each length below three hundred, over bytes that count on from any byte, the sum by any key is what the document's definition says.
  Conditions: none besides the row's own.
-/
import Derived.Test.YtojafgomckljiaaDigK
import Derived.Test.YtojafgomckljiaaDigI
namespace Go.Proofs.Ytojafgomckljiaa.lengths
open Go.ChangeShapes Go.WideShapes Go.ChangeAt Go.RowKit Go

/-- the length that is taken -/
theorem len300 (n : Int) (hn : -9223372036854775808 ≤ n ∧ n ≤ 9223372036854775807) : ∃ k : Nat, k < 300 ∧ ((n.tmod 300 < 0 ∧ n.tmod 300 + 300 = (k : Int)) ∨ (¬ n.tmod 300 < 0 ∧ n.tmod 300 = (k : Int))) := by
  have h : n.tmod 300 < 300 ∧ -300 < n.tmod 300 := by
    rcases Int.le_total 0 n with h | h
    · rw [Int.tmod_eq_emod_of_nonneg h]; omega
    · obtain ⟨m, rfl⟩ : ∃ m, n = -m := ⟨-n, by omega⟩
      rw [Int.neg_tmod, Int.tmod_eq_emod_of_nonneg (by omega)]; omega
  by_cases h0 : n.tmod 300 < 0
  · exact ⟨(n.tmod 300 + 300).toNat, by omega, .inl ⟨h0, by omega⟩⟩
  · exact ⟨(n.tmod 300).toNat, by omega, .inr ⟨h0, by omega⟩⟩

/-- the bytes -/
def vals (c : UInt8) (k : Nat) : List UInt8 := (List.range k).map fun i => c + UInt8.ofNat i
theorem vals_length (c : UInt8) (k : Nat) : (vals c k).length = k := by simp [vals]
def lcells (c : UInt8) (k j : Nat) : Array Value := ⟨((vals c k).take j ++ List.replicate (k - j) 0).map fun b : UInt8 => .int .u8 (b.toNat : Int)⟩
theorem lcells_size (c : UInt8) (k j : Nat) (h : j ≤ k) : (lcells c k j).size = k := by
  simp [lcells, vals_length]; omega
theorem lcells_get (c : UInt8) (k j i : Nat) (h : j ≤ k) : (lcells c k j)[i]? = if i < j then some (Value.int .u8 ((c + UInt8.ofNat i).toNat : Int)) else if i < k then some (.int .u8 0) else none := by
  unfold lcells
  rw [List.getElem?_toArray, List.getElem?_map, List.getElem?_append, List.length_take, vals_length, Nat.min_eq_left h]
  by_cases h1 : i < j
  · rw [if_pos h1, if_pos h1, List.getElem?_take_of_lt h1]
    simp [vals, show i < k by omega]
  · rw [if_neg h1, if_neg h1, List.getElem?_replicate]
    by_cases h2 : i < k
    · rw [if_pos (by omega), if_pos h2]; rfl
    · rw [if_neg (by omega), if_neg h2]; rfl
theorem lcells_succ (c : UInt8) (k j : Nat) (h : j < k) : (lcells c k j).setIfInBounds j (.int .u8 ((c + UInt8.ofNat j).toNat : Int)) = lcells c k (j + 1) := by
  apply Array.ext_getElem?
  intro i
  rw [Array.getElem?_setIfInBounds, lcells_size c k j (by omega), lcells_get c k j i (by omega), lcells_get c k (j + 1) i (by omega)]
  by_cases e : j = i
  · subst e
    rw [if_pos rfl, if_pos h, if_pos (by omega)]
  · rw [if_neg e]
    by_cases h1 : i < j
    · rw [if_pos h1, if_pos (by omega)]
    · rw [if_neg h1, if_neg (show ¬ i < j + 1 by omega)]
theorem lcells_zero (c : UInt8) (k : Nat) : madeCells #[.int .u8 0] k = lcells c k 0 := by
  apply Array.toList_inj.1
  rw [made_list]; simp [lcells]
theorem lcells_all (c : UInt8) (k : Nat) : (lcells c k k).toList = (vals c k).map fun b : UInt8 => .int .u8 (b.toNat : Int) := by
  simp [lcells, List.take_of_length_le (Nat.le_of_eq (vals_length c k))]

set_option maxRecDepth 100000 in
set_option maxHeartbeats 4000000 in
theorem walk' (key : ByteArray) (n : Int) (c : UInt8) (w : World) (hk : key.size ≤ 140737488351232) (hn : -9223372036854775808 ≤ n ∧ n ≤ 9223372036854775807) :
    Calls Try.prog 5 #[.string key, .int .i64 n, .int .u8 c.toNat] w fun r w' => r = .returned (.bool true) ∧ Below w.heap.size w w' := by
  obtain ⟨k, hk3, hcase⟩ := len300 n hn
  obtain ⟨t, ht⟩ : ∃ t, n.tmod 300 = t := ⟨_, rfl⟩
  rw [ht] at hcase
  have hmk := made_run w k (by omega)
  rw [lcells_zero c k] at hmk
  obtain ⟨X, E, hV⟩ : ∃ (X : ByteArray) (E : Int), sumV key.data.toList (bs (vals c k)).data.toList = .tuple #[.string X, .int .i64 E] := by
    unfold sumV; split
    · exact ⟨_, _, rfl⟩
    · exact ⟨_, _, rfl⟩
  have HV := Lib.hid hV
  have hsz : (bs (vals c k)).size ≤ 300 := by rw [bs_size, vals_length]; omega
  have hcv := fun (W : World) (h : W.heap[w.heap.size]? = some (.cells (lcells c k k) 5 (0, 0))) => conv_block W w.heap.size k (lcells c k k) 5 (vals c k) h (vals_length c k) (lcells_all c k)
  have HCV := Lib.hid hcv
  clear hV hcv
  have hmd : n.tmod 300 = n.tmod 300 := rfl
  rcases hcase with ⟨h0, h1⟩ | ⟨h0, h1⟩
  · have hw : IntKind.i64.wrap (t + 300) = (k : Int) := (IntWalk.i64_in _ ⟨by omega, by omega⟩).trans h1
    have HW := Lib.hid h1
    clear h1 hmd
    go_enter Try.func5, Try.ntmps5
    go_wp2_with fail
    go_loopw [9] (fun i wr => ∃ j : Nat, j ≤ k ∧ i = .int .i64 j ∧ wr = w.alloc (.cells (lcells c k j) 5)) (fun i _ => k - (intOf i).toNat)
    case atStart => exact ⟨0, Nat.zero_le _, rfl, rfl⟩
    case round =>
      obtain ⟨j, hj, rfl, rfl⟩ := hrel
      by_cases hlt : j < k
      · have e2 := lcells_succ c k j hlt
        have hz := lcells_size c k j hj
        have v1 : IntKind.u8.wrap (j : Int) = ((UInt8.ofNat j).toNat : Int) := by
          show (j : Int) % 256 = _
          rw [UInt8.toNat_ofNat']; omega
        have v2 : IntKind.u8.wrap ((c.toNat : Int) + ((UInt8.ofNat j).toNat : Int)) = ((c + UInt8.ofNat j).toNat : Int) := by
          show ((c.toNat : Int) + ((UInt8.ofNat j).toNat : Int)) % 256 = _
          rw [UInt8.toNat_add]; omega
        have hjk : (j : Int) < (k : Int) := by omega
        generalize c + UInt8.ofNat j = y at e2 v2
        generalize UInt8.ofNat j = z at v1 v2
        go_wp2
        go_roundw
        case rel => exact ⟨j + 1, by omega, by go_num, rfl⟩
        case measure => simp [intOf]; omega
      · obtain rfl : j = k := by omega
        have hc1 := HCV.out _ (heap_alloc_new _ _)
        have HB0 := Lib.hid (show Below w.heap.size w (w.alloc (.cells (lcells c j j) 5)) from (Below.refl _ w).alloc (Nat.le_refl _) _)
        have HG0 := Lib.hid (heap_alloc_new w (.cells (lcells c j j) 5))
        have HL0 := Lib.hid (show w.heap.size < (w.alloc (.cells (lcells c j j) 5)).heap.size by simp)
        go_wp2_with fail
        refine (dsum_any key (bs (vals c j)) (by omega) (by omega) _).mono ?_
        rintro e w1 ⟨rfl, B1⟩
        rw [HV.out]
        have G1 : w1.heap[w.heap.size]? = _ := (B1.block _ HL0.out).trans HG0.out
        have B2 := HB0.out.trans (B1.mono HB0.out.size)
        have hc2 := HCV.out w1 G1
        clear hc1 HG0 HL0 G1
        go_wp2_with fail
        refine (rsum_any key (bs (vals c j)) hk (by omega) _).mono ?_
        rintro e w2 ⟨rfl, B3⟩
        rw [HV.out]
        have B4 := B2.trans (B3.mono B2.size)
        clear hc2
        go_wp2_with fail
        refine (fixed_any _).mono ?_
        rintro e w3 ⟨rfl, B5⟩
        go_wp2
        go_ret
        exact ⟨rfl, B4.trans (B5.mono B4.size)⟩
  · subst h1
    clear h0 hmd
    go_enter Try.func5, Try.ntmps5
    go_wp2_with fail
    go_loopw [9] (fun i wr => ∃ j : Nat, j ≤ k ∧ i = .int .i64 j ∧ wr = w.alloc (.cells (lcells c k j) 5)) (fun i _ => k - (intOf i).toNat)
    case atStart => exact ⟨0, Nat.zero_le _, rfl, rfl⟩
    case round =>
      obtain ⟨j, hj, rfl, rfl⟩ := hrel
      by_cases hlt : j < k
      · have e2 := lcells_succ c k j hlt
        have hz := lcells_size c k j hj
        have v1 : IntKind.u8.wrap (j : Int) = ((UInt8.ofNat j).toNat : Int) := by
          show (j : Int) % 256 = _
          rw [UInt8.toNat_ofNat']; omega
        have v2 : IntKind.u8.wrap ((c.toNat : Int) + ((UInt8.ofNat j).toNat : Int)) = ((c + UInt8.ofNat j).toNat : Int) := by
          show ((c.toNat : Int) + ((UInt8.ofNat j).toNat : Int)) % 256 = _
          rw [UInt8.toNat_add]; omega
        have hjk : (j : Int) < (k : Int) := by omega
        generalize c + UInt8.ofNat j = y at e2 v2
        generalize UInt8.ofNat j = z at v1 v2
        go_wp2
        go_roundw
        case rel => exact ⟨j + 1, by omega, by go_num, rfl⟩
        case measure => simp [intOf]; omega
      · obtain rfl : j = k := by omega
        have hc1 := HCV.out _ (heap_alloc_new _ _)
        have HB0 := Lib.hid (show Below w.heap.size w (w.alloc (.cells (lcells c j j) 5)) from (Below.refl _ w).alloc (Nat.le_refl _) _)
        have HG0 := Lib.hid (heap_alloc_new w (.cells (lcells c j j) 5))
        have HL0 := Lib.hid (show w.heap.size < (w.alloc (.cells (lcells c j j) 5)).heap.size by simp)
        go_wp2_with fail
        refine (dsum_any key (bs (vals c j)) (by omega) (by omega) _).mono ?_
        rintro e w1 ⟨rfl, B1⟩
        rw [HV.out]
        have G1 : w1.heap[w.heap.size]? = _ := (B1.block _ HL0.out).trans HG0.out
        have B2 := HB0.out.trans (B1.mono HB0.out.size)
        have hc2 := HCV.out w1 G1
        clear hc1 HG0 HL0 G1
        go_wp2_with fail
        refine (rsum_any key (bs (vals c j)) hk (by omega) _).mono ?_
        rintro e w2 ⟨rfl, B3⟩
        rw [HV.out]
        have B4 := B2.trans (B3.mono B2.size)
        clear hc2
        go_wp2_with fail
        refine (fixed_any _).mono ?_
        rintro e w3 ⟨rfl, B5⟩
        go_wp2
        go_ret
        exact ⟨rfl, B4.trans (B5.mono B4.size)⟩

theorem walk (key : ByteArray) (n : Int) (c : Int) (w : World) (hk : key.size ≤ 140737488351232) (hn : -9223372036854775808 ≤ n ∧ n ≤ 9223372036854775807) (hc : 0 ≤ c ∧ c ≤ 255) :
    Calls Try.prog 5 #[.string key, .int .i64 n, .int .u8 c] w fun r w' => r = .returned (.bool true) ∧ Below w.heap.size w w' := by
  have e : c = ((UInt8.ofNat c.toNat).toNat : Int) := by rw [UInt8.toNat_ofNat']; omega
  rw [e]
  exact walk' key n _ w hk hn

/-- WHAT THE WALK GIVES, for every argument that can be read. -/
theorem contract (H : Type) (enc : TypeId × Value → H) (W : World) (base : Nat) (args : Array Value) (ds gs : List (DataW H)) (before : List MemPlace)
    (hval : ∀ (j : Nat) t v, Try.f5.params[j]? = some t → args[j]? = some v → Value.okWide Try.prog W .any base t v)
    (hW : DataW.Whole enc Try.prog Try.f5.params.toList Rows.digestLengthsSpec.vars false W args.toList ds gs before)
    (hreach : (DataW.weightsEach Try.prog (Try.f5.params.toList) ds).all (· ≤ reachBytes) = true) :
    Calls Try.prog 5 args W fun e W' => ∃ v, e = .returned v ∧ Rows.digestLengthsSpec.post enc Try.prog Try.f5 false true false false W args v W' := by
  have hW' := hW
  obtain ⟨p, q, hA0, hV, rfl, hfz, hnd⟩ := hW
  have hA : DataW.TrodAll enc Try.prog W 0 (fun _ => true) true Try.f5.params.toList args.toList ds p := hA0
  rw [Try.params5] at hA hval hreach
  obtain ⟨v0, v1, v2, d0, d1, d2, p0, p1, p2, rfl, rfl, rfl, h0, h1, h2⟩ := trodAll_three hA
  obtain ⟨rfl, rfl⟩ := trodVars_none hV
  obtain ⟨s0, rfl, rfl, rfl, ws0⟩ := Go.ChangeMaps.open_string Try.underlying9 (hval 0 9 v0 rfl rfl) h0
  have r0 := reach_size (sized_string hreach (j := 0) rfl rfl)
  obtain ⟨n1, rfl, rfl, rfl, wn1⟩ := open_int Try.underlying3 (hval 1 3 v1 rfl rfl) h1
  have r1 := int_range wn1
  obtain ⟨n2, rfl, rfl, rfl, wn2⟩ := open_int Try.underlying5 (hval 2 5 v2 rfl rfl) h2
  have r2 := byte_range wn2
  clear hA0 hval
  simp only [List.append_nil] at hW'
  refine (walk s0 n1 n2 W r0 r1 r2).mono fun e W' ⟨he, hB⟩ => ?_
  subst he
  exact ⟨_, rfl, post_of_below (pa := []) (pv := []) hW' (fun _ _ _ => trodAll_mk1 (shut_bool Try.underlying4 _)) (fun _ _ => trodAll_mk3 (Go.ChangeMaps.shut_string Try.underlying9 ws0) (shut_int Try.underlying3 wn1) (shut_int Try.underlying5 wn2)) (fun _ _ => rfl) rfl hB (ok_one (by kernel_rfl) rfl (okWide_bool_mk Try.underlying4 _))⟩

theorem reads (os : Os) {H : Type} (enc : TypeId × Value → H) : ∃ places, DataW.whole enc Try.prog ((laidWorld os).forCall (fun _ _ => 0) ⟨#[], #[.string ⟨#[]⟩, .int .i64 0, .int .u8 0], []⟩).memory Try.f5.params.toList Rows.digestLengthsSpec.vars false (#[.string ⟨#[]⟩, .int .i64 0, .int .u8 0] : Array Value).toList 8 = some ([.lit (.string []), .lit (.int .i64 0), .lit (.int .u8 0)], [], places) :=
  ⟨[], by kernel_rfl⟩

set_option maxRecDepth 100000 in
theorem lifted (os : Os) (started : os.Started) (H : Type) (enc : TypeId × Value → H) (F : Stop.Interp) :
    ReturnsInHanded {} Try.checked os 5 .any ((OpenSpec.ofChange Rows.digestLengthsSpec).preRow enc Try.prog Try.f5 Rows.digestLengthsRow.domain false Rows.digestLengthsRow.laid) (((OpenSpec.ofChange Rows.digestLengthsSpec).at F).post enc Try.prog Try.f5 false true false false) := by
  obtain ⟨places, hx⟩ := reads os enc
  refine returnsInHanded_of_row (C := Try.checked) (s := OpenSpec.ofChange Rows.digestLengthsSpec) own started (by kernel_rfl) Try.func5
    (witness_row_at (enc := enc) (C := Try.checked) false (laidWorld os) #[.string ⟨#[]⟩, .int .i64 0, .int .u8 0] rfl (by kernel_rfl) (by kernel_rfl) (by kernel_rfl)
      (OpenSpec.preRow_of_cond 8 hx (by kernel_rfl) (fun k hk => by cases hk) (by kernel_rfl) (laid_met os _))) ?_
  intro W base args ds gs before hval hW _ hcond hreach hL _ _
  obtain ⟨p, q, hA0, hV, hpq, hfz, hnd⟩ := id hW
  obtain ⟨rfl, _⟩ := trodVars_none hV
  rw [List.append_nil] at hreach
  exact contract H enc W base args ds [] before hval hW hreach

theorem said : Rows.DigestLengthsSaid :=
  OpenClaim.holds_of_cond 5 Try.f5 rfl rfl rfl rfl rfl rfl rfl ⟨rfl, rfl, rfl, rfl, rfl⟩ rfl rfl rfl rfl rfl (by kernel_rfl) Try.func5 (by kernel_rfl)
    (of_decide_eq_true (by kernel_rfl)) (by unfold Func.isWrapper; first | (rw [if_pos (by decide +kernel)]; kernel_rfl) | (rw [if_neg (by decide +kernel)]; exact ⟨rfl, rfl⟩))
    (fun os started H enc _ F => by rw [OpenClaim.pre_eq_preRow]; exact lifted os started H enc F)


end Go.Proofs.Ytojafgomckljiaa.lengths
