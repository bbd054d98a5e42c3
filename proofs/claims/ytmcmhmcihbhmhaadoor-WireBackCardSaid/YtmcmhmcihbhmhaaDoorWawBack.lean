/-
  Numbers, texts and rows of numbers, laid one behind the other, are read as they were, and nothing is left; with bytes behind, these are left: for every list of numbers, every list of texts (of each the first hundred) and all bytes behind.
  Conditions: those of its row (the variable errors.errorType lies as the program's text lays it: the card ties it).
-/
import Derived.Test.YtmcmhmcihbhmhaaDoorWirJ
import Derived.Test.YtmcmhmcihbhmhaaDoorWirN
import Derived.Test.YtmcmhmcihbhmhaaDoorWirS
import Derived.Laws.Cover1
namespace Go.Proofs.YtmcmhmcihbhmhaaDoor.back
open Go.ChangeShapes Go.WideShapes Go.ChangeAt Go.RowKit Go

theorem ret_bool {b c : Bool} (h : b = c) : Ending.returned (.bool b) = .returned (.bool c) := by rw [h]
theorem least3 (a b : Nat) : ∃ M : Nat, M ≤ a ∧ M ≤ b ∧ M ≤ 100 ∧ (if (100 : Int) < (if b < a then (b : Int) else (a : Int)) then (100 : Int) else (if b < a then (b : Int) else (a : Int))) = (M : Int) := by
  refine ⟨min (min a b) 100, by omega, by omega, by omega, ?_⟩
  split <;> split <;> omega

theorem dg_ne (n : Nat) : (bs (dg n)).toList.isEmpty = false := by
  rw [ByteArray.toList_eq, bs_list]
  cases h : dg n with
  | nil => have := dg_pos n; rw [h] at this; exact absurd this (by simp)
  | cons _ _ => rfl
theorem eq_empty (s : ByteArray) : s.toList.isEmpty = decide (s.data.toList = []) := by
  rw [ByteArray.toList_eq]
  cases s.data.toList <;> rfl

/-- where the two lists lie -/
structure Lie (w : World) (b off b2 off2 : Nat) (zs : List Int) (ts : List ByteArray) : Prop where
  lt : b < w.heap.size
  lt2 : b2 < w.heap.size
  c : ∀ j, j < zs.length → w.cell? ⟨b, off + j, none⟩ = some (.int .i64 (zAt zs j))
  c2 : ∀ j, j < ts.length → w.cell? ⟨b2, off2 + j, none⟩ = some (.string (tAt ts j))
theorem Lie.at1 {w w' : World} {b off b2 off2 : Nat} {zs : List Int} {ts : List ByteArray} (h : Lie w b off b2 off2 zs ts) (B : Below w.heap.size w w') {j : Nat} (hj : j < zs.length) : w'.cell? ⟨b, off + j, none⟩ = some (.int .i64 (zAt zs j)) :=
  (B.cell (p := ⟨b, off + j, none⟩) h.lt).trans (h.c j hj)
theorem Lie.at2 {w w' : World} {b off b2 off2 : Nat} {zs : List Int} {ts : List ByteArray} (h : Lie w b off b2 off2 zs ts) (B : Below w.heap.size w w') {j : Nat} (hj : j < ts.length) : w'.cell? ⟨b2, off2 + j, none⟩ = some (.string (tAt ts j)) :=
  (B.cell (p := ⟨b2, off2 + j, none⟩) h.lt2).trans (h.c2 j hj)
theorem Lie.head {w w' : World} {b off b2 off2 : Nat} {zs : List Int} {ts : List ByteArray} (h : Lie w b off b2 off2 zs ts) (B : Below w.heap.size w w') {k cap : Nat} (hk : k ≤ zs.length) : IntsAt w' (.slice (some ⟨b, off, none⟩) k cap) (zs.take k) := by
  have hl : (zs.take k).length = k := by rw [List.length_take]; omega
  refine IntsAt.at b off cap (by rw [hl]) (Nat.lt_of_lt_of_le h.lt B.size) fun j hj => ?_
  rw [hl] at hj
  rw [h.at1 B (show j < zs.length by omega), zAt_get (by omega), List.getElem_take]

set_option maxRecDepth 100000 in
set_option maxHeartbeats 8000000 in
theorem walk (v1 : Value) (zs : List Int) (v2 : Value) (ts : List ByteArray) (s : ByteArray) (w : World) (hI : IntsAt w v1 zs) (hz : zs.length ≤ 140737488351232) (hcap : ∀ a len cap, v1 = .slice a len cap → len ≤ cap) (hT : StrsAt w v2 ts) (ht : ts.length ≤ 140737488351232 ∧ ∀ s ∈ ts, s.size ≤ 140737488351232) (hs : s.size ≤ 140737488351232) (hg : GE w) :
    Calls Tryd.prog 5 #[v1, v2, .string s] w fun r w' => r = .returned (.bool true) ∧ Below w.heap.size w w' := by
  obtain ⟨M, hM1, hM2, hM3, hm1⟩ := least3 zs.length ts.length
  obtain ⟨a, cap, rfl, ha⟩ := hI
  have hcp := hcap _ _ _ rfl
  obtain ⟨a2, cap2, rfl, ha2⟩ := hT
  have lie : ∀ k, k < M → ∃ b off b2 off2, a = some ⟨b, off, none⟩ ∧ a2 = some ⟨b2, off2, none⟩ ∧ Lie w b off b2 off2 zs ts := by
    intro k hk
    obtain ⟨b, off, e1, h1, h2⟩ := ha (by intro e; rw [e] at hM1; exact absurd hM1 (by simp; omega))
    obtain ⟨b2, off2, e2, h3, h4⟩ := ha2 (by intro e; rw [e] at hM2; exact absurd hM2 (by simp; omega))
    exact ⟨b, off, b2, off2, e1, e2, h1, h3, fun j hj => by rw [h2 j hj, zAt_get hj], fun j hj => by rw [h4 j hj, tAt_get hj]⟩
  have tsz : ∀ k, k < M → (tAt ts k).size ≤ 140737488351232 := fun k hk => by
    rw [tAt_get (by omega)]; exact ht.2 _ (List.getElem_mem _)
  have HL := Lib.hid lie
  have HZ := Lib.hid tsz
  have hM100 : (M : Int) ≤ 100 := by omega
  clear ha ha2 lie tsz ht
  go_enter Tryd.func5, Tryd.ntmps5
  go_wp2
  go_loopw [7, 9] (fun t i wr => ∃ (k : Nat) (S : ByteArray), k ≤ M ∧ i = .int .i64 k ∧ t = .string S ∧ S = bs (itemsFrom zs ts 0 k) ∧ fine zs ts k ∧ Below w.heap.size w wr) (fun _ i _ => M - (intOf i).toNat)
  case atStart => exact ⟨0, _, Nat.zero_le _, rfl, rfl, rfl, fun j hj => absurd hj (Nat.not_lt_zero j), Below.refl _ _⟩
  case round =>
    obtain ⟨k, S, hk, rfl, rfl, hS, hf, hB⟩ := hrel
    have HS := Lib.hid hS
    have HF := Lib.hid hf
    have HB := Lib.hid hB
    have hSs : S.size ≤ 6646300 := by
      have := items_fine_len k hf (by omega) (by omega)
      rw [hS, bs_size]; omega
    clear hS hf hB
    by_cases hlt : k < M
    · obtain ⟨b, off, b2, off2, rfl, rfl, lie⟩ := HL.out k hlt
      have hkM : (k : Int) < (M : Int) := by omega
      have hkz : (k : Int) < (zs.length : Int) := by omega
      have hkt : (k : Int) < (ts.length : Int) := by omega
      have hkc : (k : Int) ≤ (cap : Int) := by omega
      have hkc2 : k ≤ cap := by omega
      have hc1 := lie.at1 HB.out (j := k) (by omega)
      have hc2 := lie.at2 HB.out (j := k) (by omega)
      have HLie := Lib.hid lie
      have C1 := fun w => wnum_any (zAt zs k) w
      have C2 := fun w => wtext_any (tAt ts k) (by have := HZ.out k hlt; omega) w
      have C3 : ∀ (w' : World) (cp : Nat), Below w.heap.size w w' → Calls Tryd.prog 15 #[.slice (some ⟨b, off, none⟩) k cp] w' fun e w2 => e = .returned (.tuple #[.string (bs (dg k ++ layL (nats zs k))), .int .i64 0]) ∧ Below w'.heap.size w' w2 := fun w' cp hB => by
        have := wnums_any _ (zs.take k) (by rw [List.length_take]; omega) w' (lie.head hB (k := k) (cap := cp) (by omega))
        rwa [numsW_at HF.out (by omega) (by omega)] at this
      have hrl : (bs (dg k ++ layL (nats zs k))).size ≤ 909 := by
        have d3 := dg_9 (n := k) (by omega)
        have h3 := layL_len (nats zs k) (fun n hn => by have := ((HF.out.nats (by omega)).2 n hn).2; omega)
        rw [nats_len (by omega)] at h3
        rw [bs_size, List.length_append]; omega
      have HI := Lib.hid (show itemsFrom zs ts 0 (k + 1) = itemsFrom zs ts 0 k ++ item zs ts k by rw [itemsFrom_last, Nat.zero_add])
      have HJ := Lib.hid (show ∀ r : List UInt8, item zs ts k = dg (zAt zs k).toNat ++ (dg (tAt ts k).size ++ (tAt ts k).data.toList) ++ (dg k ++ layL (nats zs k)) from fun _ => rfl)
      have HFn := Lib.hid (show bad (zAt zs k) = false → (tAt ts k).size ≤ 65536 → fine zs ts (k + 1) from fun h1 h2 j hj => by
        by_cases e : j = k
        · subst e; exact ⟨h1, h2⟩
        · exact HF.out j (by omega))
      clear lie
      generalize zAt zs k = z at *
      generalize tAt ts k = T at *
      generalize dg k ++ layL (nats zs k) = lr at *
      cases hbz : bad z with
      | true =>
        rw [numW_no hbz] at C1
        obtain ⟨S2, e2, h2⟩ := textW_form T.data.toList
        rw [h2] at C2
        clear h2 hbz HFn HI HJ
        go_wp2_with fail
        refine (C1 _).mono ?_
        rintro e w1 ⟨rfl, K⟩
        have B1 := HB.out.trans (K.mono HB.out.size)
        have hc2' : w1.cell? ⟨b2, off2 + k, none⟩ = some (.string T) := (K.cell (p := ⟨b2, off2 + k, none⟩) (Nat.lt_of_lt_of_le HLie.out.lt2 HB.out.size)).trans hc2
        clear K C1 hc1
        go_wp2_with fail
        refine (C2 _).mono ?_
        rintro e w2 ⟨rfl, K⟩
        have B2 := B1.trans (K.mono B1.size)
        clear K C2 B1
        go_wp2_with fail
        refine (C3 _ _ B2).mono ?_
        rintro e w3 ⟨rfl, K⟩
        have B3 := B2.trans (K.mono B2.size)
        have hg3 := hg.below B3
        clear K C3 B2
        go_wp2_with fail
        refine (fixed_any _ hg3).mono ?_
        rintro e w4 ⟨rfl, K⟩
        go_wp2_with fail
        go_ret
        exact ⟨ret_bool (by simp), B3.trans (K.mono B3.size)⟩
      | false =>
        rw [numW_at hbz] at C1
        have hgz := good_of hbz
        have h9 := dg_9 (n := z.toNat) (by omega)
        have hAs : (bs (dg z.toNat)).size ≤ 9 := by rw [bs_size]; exact h9
        by_cases hTz : T.size ≤ 65536
        · rw [textW_at hTz] at C2
          have hTd := dg_9 (n := T.size) (by omega)
          have hBs : (bs (dg T.size ++ T.data.toList)).size ≤ 65545 := by rw [bs_size, List.length_append]; simp; omega
          have HFk := Lib.hid (HFn.out hbz hTz)
          have HC := Lib.hid (show S ++ (bs (dg z.toNat) ++ bs (dg T.size ++ T.data.toList) ++ bs lr) = bs (itemsFrom zs ts 0 (k + 1)) by rw [HI.out, HJ.out [], HS.out, ← bs_append, ← bs_append, ← bs_append])
          clear hbz hgz h9 hTz hTd HFn HI HJ
          generalize bs (dg z.toNat) = A at *
          generalize bs (dg T.size ++ T.data.toList) = D at *
          generalize bs lr = L at *
          have n1 : ¬ 9223372036854775807 < A.size + D.size := by omega
          have n2 : ¬ 9223372036854775807 < (A ++ D).size + L.size := by rw [ByteArray.size_append]; omega
          have n3 : ¬ 9223372036854775807 < S.size + (A ++ D ++ L).size := by rw [ByteArray.size_append, ByteArray.size_append]; omega
          clear hAs hBs hrl
          go_wp2_with fail
          refine (C1 _).mono ?_
          rintro e w1 ⟨rfl, K⟩
          have B1 := HB.out.trans (K.mono HB.out.size)
          have hc2' : w1.cell? ⟨b2, off2 + k, none⟩ = some (.string T) := (K.cell (p := ⟨b2, off2 + k, none⟩) (Nat.lt_of_lt_of_le HLie.out.lt2 HB.out.size)).trans hc2
          clear K C1 hc1
          go_wp2_with fail
          refine (C2 _).mono ?_
          rintro e w2 ⟨rfl, K⟩
          have B2 := B1.trans (K.mono B1.size)
          clear K C2 B1
          go_wp2_with fail
          refine (C3 _ _ B2).mono ?_
          rintro e w3 ⟨rfl, K⟩
          have HB3 := Lib.hid (B2.trans (K.mono B2.size))
          clear K C3 B2
          go_wp2
          go_roundw
          case rel => exact ⟨k + 1, _, by omega, by go_num, rfl, HC.out, HFk.out, HB3.out⟩
          case measure => simp [intOf]; omega
        · rw [textW_no hTz] at C2
          have hAe := dg_ne z.toNat
          clear hbz hgz h9 hTz HFn HI HJ
          generalize bs (dg z.toNat) = A at *
          go_wp2_with fail
          refine (C1 _).mono ?_
          rintro e w1 ⟨rfl, K⟩
          have B1 := HB.out.trans (K.mono HB.out.size)
          have hc2' : w1.cell? ⟨b2, off2 + k, none⟩ = some (.string T) := (K.cell (p := ⟨b2, off2 + k, none⟩) (Nat.lt_of_lt_of_le HLie.out.lt2 HB.out.size)).trans hc2
          clear K C1 hc1
          go_wp2_with fail
          refine (C2 _).mono ?_
          rintro e w2 ⟨rfl, K⟩
          have B2 := B1.trans (K.mono B1.size)
          clear K C2 B1
          go_wp2_with fail
          refine (C3 _ _ B2).mono ?_
          rintro e w3 ⟨rfl, K⟩
          have B3 := B2.trans (K.mono B2.size)
          have hg3 := hg.below B3
          clear K C3 B2
          go_wp2_with fail
          refine (fixed_any _ hg3).mono ?_
          rintro e w4 ⟨rfl, K⟩
          go_wp2_with fail
          go_ret
          exact ⟨ret_bool (by simp), B3.trans (K.mono B3.size)⟩
    · obtain rfl : k = M := by omega
      have hfm := HF.out
      have hSl := items_fine_len k hfm (by omega) (by omega)
      have HSE := Lib.hid (show S ++ s = bs (itemsFrom zs ts 0 k ++ s.data.toList) by rw [HS.out, bs_append]; rfl)
      have nsum : ¬ 9223372036854775807 < S.size + s.size := by omega
      have hsl : s.data.toList.length = s.size := by simp
      have hlen : ∀ j n, j + n = k → (itemsFrom zs ts j n ++ s.data.toList).length ≤ 281474976710656 := fun j n e => by
        have := items_len (zs := zs) (ts := ts) j n (by rw [e]; exact hfm) (by omega) (by omega)
        rw [List.length_append]; omega
      have HLen := Lib.hid hlen
      clear hSl hlen hsl
      go_wp2_with fail
      refine (rnew_any (S ++ s) _).mono ?_
      rintro e w1 ⟨br, rfl, hbr, H1, K⟩
      rw [HSE.out] at H1
      have H1' : w1.heap[br]? = some (RO ⟨itemsFrom zs ts 0 k ++ s.data.toList, 0⟩) := H1
      have B1 := HB.out.trans (K.mono HB.out.size)
      have hbw : w.heap.size ≤ br := Nat.le_trans HB.out.size hbr
      have hbr0 : br ≠ 0 := by have := hg.lt; omega
      have HB1 := Lib.hid B1
      have HH1 := Lib.hid H1'
      have HFM := Lib.hid hfm
      clear H1 H1' K B1 HB HS HF HSE nsum hSs hfm hbr
      go_wp2_with fail
      go_loopw [17] (fun i wr => ∃ j n : Nat, j + n = k ∧ i = .int .i64 j ∧ wr.heap[br]? = some (RO ⟨itemsFrom zs ts j n ++ s.data.toList, 0⟩) ∧ Below w.heap.size w wr) (fun i _ => k - (intOf i).toNat)
      case atStart => exact ⟨0, k, by omega, rfl, HH1.out, HB1.out⟩
      case round =>
        clear HH1 HB1
        obtain ⟨j, n, hjn, rfl, hH, hB⟩ := hrel
        have HB := Lib.hid hB
        have hgr := hg.below hB
        cases n with
        | zero =>
          obtain rfl : j = k := by omega
          clear hjn HFM
          rw [itemsFrom_zero, List.nil_append] at hH
          go_wp2_with fail
          refine (fixed_any _ hgr).mono ?_
          rintro e w3 ⟨rfl, K⟩
          have B3 := HB.out.trans (K.mono HB.out.size)
          have hg3 := hgr.below K
          have H3 := keeps_of K hH
          clear K hH hB hgr
          have hee := eq_empty s
          by_cases hs0 : s.data.toList = []
          · have he : endR ⟨s.data.toList, 0⟩ = 0 := by unfold endR; rw [if_pos rfl, if_pos hs0]
            rw [decide_eq_true hs0] at hee
            clear hs0
            go_wp2_with fail
            refine (qend_is he _ hg3 H3).mono ?_
            rintro e w4 ⟨rfl, K⟩
            go_wp2_with fail
            go_ret
            exact ⟨ret_bool (by simp), B3.trans (K.mono B3.size)⟩
          · have he : endR ⟨s.data.toList, 0⟩ = 32 := by unfold endR; rw [if_pos rfl, if_neg hs0]
            rw [decide_eq_false hs0] at hee
            clear hs0
            go_wp2_with fail
            refine (qend_is he _ hg3 H3).mono ?_
            rintro e w4 ⟨rfl, K⟩
            go_wp2_with fail
            go_ret
            exact ⟨ret_bool (by simp), B3.trans (K.mono B3.size)⟩
        | succ n =>
          have hjk : j < k := by omega
          obtain ⟨b, off, b2, off2, rfl, rfl, lie⟩ := HL.out j hjk
          have hfj : fine zs ts (j + 1) := fun i hi => HFM.out i (by omega)
          have hfj0 : fine zs ts j := fun i hi => HFM.out i (by omega)
          obtain ⟨r1, r2, r3⟩ := item_read hfj (by omega) (by omega) (itemsFrom zs ts (j + 1) n ++ s.data.toList)
          have hl0 := HLen.out j (n + 1) hjn
          rw [itemsFrom_head, List.append_assoc] at hH hl0
          have hl1 := numR_rest ⟨item zs ts j ++ (itemsFrom zs ts (j + 1) n ++ s.data.toList), 0⟩ 4611686018427387903
          rw [r1] at hl1
          have hl2 := textR_rest ⟨dg (tAt ts j).size ++ (tAt ts j).data.toList ++ (dg j ++ layL (nats zs j) ++ (itemsFrom zs ts (j + 1) n ++ s.data.toList)), 0⟩ 1073741824
          rw [r2] at hl2
          have q1 := fun w => qnum_is (b := br) hbr0 r1 rfl hl0 w
          have q2 := fun w => qtext_is (b := br) hbr0 r2 (bs_self _) rfl (Nat.le_trans hl1 hl0) w
          have q3 := fun w => qnums_any br hbr0 ⟨dg j ++ layL (nats zs j) ++ (itemsFrom zs ts (j + 1) n ++ s.data.toList), 0⟩ 1073741824 4611686018427387903 (Nat.le_trans hl2 (Nat.le_trans hl1 hl0)) w
          rw [r3] at q3
          have hnat : ((zAt zs j).toNat : Int) = zAt zs j := by have := good_of (hfj j (by omega)).1; omega
          have htk : toInts (nats zs j) = zs.take j := (hfj0.nats (by omega)).1
          have hkM : (j : Int) < (k : Int) := by omega
          have hkz : (j : Int) < (zs.length : Int) := by omega
          have hkt : (j : Int) < (ts.length : Int) := by omega
          have hkc : (j : Int) ≤ (cap : Int) := by omega
          have hkc2 : j ≤ cap := by omega
          have CS : ∀ (w' : World) (l : Value) (cp : Nat), Below w.heap.size w w' → IntsAt w' l (toInts (nats zs j)) → Calls Tryd.prog 25 #[l, .slice (some ⟨b, off, none⟩) j cp] w' fun e w2 => e = .returned (.bool true) ∧ Below w'.heap.size w' w2 := fun w' l cp hB hl =>
            same_self _ _ (zs.take j) (by rw [List.length_take]; omega) w' (by rw [← htk]; exact hl) (lie.head hB (by omega))
          have HLie := Lib.hid lie
          clear r1 r2 r3 hl0 hl1 hl2 htk hfj hfj0 lie
          go_wp2_with fail
          refine (q1 _ hgr hH).mono ?_
          rintro e w3 ⟨rfl, K⟩
          rw [hnat]
          have B3 := HB.out.trans (K.below hbw HB.out.size)
          have hg3 := hgr.moved K hbr0
          have H3 := K.here
          clear K q1 hH hB hgr
          go_wp2_with fail
          refine (q2 _ hg3 H3).mono ?_
          rintro e w4 ⟨rfl, K⟩
          have B4 := B3.trans (K.below hbw B3.size)
          have hg4 := hg3.moved K hbr0
          have H4 := K.here
          clear K q2 H3 B3 hg3
          go_wp2_with fail
          refine (q3 _ hg4 H4).mono ?_
          rintro e w5 ⟨⟨l, rfl, hl⟩, K⟩
          have B5 := B4.trans (K.below hbw B4.size)
          have H5 := Lib.hid K.here
          have hc1 := HLie.out.at1 B5 (j := j) (by omega)
          have hc2 := HLie.out.at2 B5 (j := j) (by omega)
          have CX := fun cp => CS w5 l cp B5 hl
          clear K q3 H4 B4 hg4 CS hl
          generalize zAt zs j = z at *
          generalize tAt ts j = T at *
          go_wp2_with fail
          refine (CX _).mono ?_
          rintro e w6 ⟨rfl, K⟩
          have HB6 := Lib.hid (B5.trans (K.mono B5.size))
          have H6 := Lib.hid (keeps_of K H5.out)
          clear K CX hc1 hc2 B5 H5
          go_wp2
          go_roundw
          case rel => exact ⟨j + 1, n, by omega, by go_num, H6.out, HB6.out⟩
          case measure => simp [intOf]; omega

set_option maxRecDepth 100000 in
/-- WHAT THE WALK GIVES, for every argument that can be read. -/
theorem contract (H : Type) (enc : TypeId × Value → H) (W : World) (base : Nat) (args : Array Value) (ds gs : List (DataW H)) (before : List MemPlace)
    (hval : ∀ (j : Nat) t v, Tryd.f5.params[j]? = some t → args[j]? = some v → Value.okWide Tryd.prog W .any base t v)
    (hW : DataW.Whole enc Tryd.prog Tryd.f5.params.toList Rows.wireBackSpec.vars false W args.toList ds gs before)
    (hreach : (DataW.weightsEach Tryd.prog (Tryd.f5.params.toList) ds).all (· ≤ reachBytes) = true) (hg : GE W) :
    Calls Tryd.prog 5 args W fun e W' => ∃ v, e = .returned v ∧ Rows.wireBackSpec.post enc Tryd.prog Tryd.f5 false true false false W args v W' := by
  have hW' := hW
  obtain ⟨p, q, hA0, hV, rfl, hfz, hnd⟩ := hW
  have hA : DataW.TrodAll enc Tryd.prog W 0 (fun _ => true) true Tryd.f5.params.toList args.toList ds p := hA0
  rw [Tryd.params5] at hA hval hreach
  obtain ⟨v0, v1, v2, d0, d1, d2, p0, p1, p2, rfl, rfl, rfl, h0, h1, h2⟩ := trodAll_three hA
  obtain ⟨rfl, rfl⟩ := trodVars_none hV
  obtain ⟨s2, rfl, rfl, rfl, ws2⟩ := Go.ChangeMaps.open_string Tryd.underlying9 (hval 2 9 v2 rfl rfl) h2
  have r2 := reach_size (sized_string hreach (j := 2) rfl rfl)
  have lt0 : ∀ x ∈ p0, x.block < W.heap.size := fun x hx => hW'.lt x (by simp [hx])
  obtain ⟨l0, k0, r0⟩ := ints_open (hval 0 22 v0 rfl rfl) h0 lt0 hreach (j := 0) rfl rfl
  have lt1 : ∀ x ∈ p1, x.block < W.heap.size := fun x hx => hW'.lt x (by simp [hx])
  obtain ⟨l1, k1, r1⟩ := strs_open (hval 1 45 v1 rfl rfl) h1 lt1 hreach (j := 1) rfl rfl
  clear hA0 hval
  simp only [List.append_nil] at hW'
  refine (walk v0 l0 v1 l1 s2 W k0 r0 (ints_cap h0) k1 r1 r2 hg).mono fun e W' ⟨he, hB⟩ => ?_
  subst he
  exact ⟨_, rfl, post_of_below (pa := p0 ++ (p1 ++ ([]))) (pv := []) hW' (fun _ _ _ => trodAll_mk1 (shut_bool Tryd.underlying4 _)) (fun sp hsp => trodAll_mk3 (WideElems.Trod_stays laidOut (by kernel_rfl) (of_decide_eq_true (by kernel_rfl)) h0 (fun x hx => hB.same (lt0 x hx)) (fun x hx => hsp x (by simp [hx]))) (WideElems.Trod_stays laidOut (by kernel_rfl) (of_decide_eq_true (by kernel_rfl)) h1 (fun x hx => hB.same (lt1 x hx)) (fun x hx => hsp x (by simp [hx]))) (Go.ChangeMaps.shut_string Tryd.underlying9 ws2)) (fun _ _ => rfl) (by simp) hB (ok_one (by kernel_rfl) rfl (okWide_bool_mk Tryd.underlying4 _))⟩

theorem reads (os : Os) {H : Type} (enc : TypeId × Value → H) : ∃ places, DataW.whole enc Tryd.prog ((laidWorld os).forCall (fun _ _ => 0) ⟨#[], #[.slice none 0 0, .slice none 0 0, .string ⟨#[]⟩], []⟩).memory Tryd.f5.params.toList Rows.wireBackSpec.vars false (#[.slice none 0 0, .slice none 0 0, .string ⟨#[]⟩] : Array Value).toList 8 = some ([.nil, .nil, .lit (.string [])], [], places) :=
  ⟨[], by kernel_rfl⟩

set_option maxRecDepth 100000 in
theorem lifted (os : Os) (started : os.Started) (H : Type) (enc : TypeId × Value → H) (F : Stop.Interp) :
    ReturnsInHanded {} Tryd.checked os 5 .any ((OpenSpec.ofChange Rows.wireBackSpec).preRow enc Tryd.prog Tryd.f5 Rows.wireBackRow.domain false Rows.wireBackRow.laid) (((OpenSpec.ofChange Rows.wireBackSpec).at F).post enc Tryd.prog Tryd.f5 false true false false) := by
  obtain ⟨places, hx⟩ := reads os enc
  refine returnsInHanded_of_row (C := Tryd.checked) (s := OpenSpec.ofChange Rows.wireBackSpec) own started (by kernel_rfl) Tryd.func5
    (witness_row_at (enc := enc) (C := Tryd.checked) false (laidWorld os) #[.slice none 0 0, .slice none 0 0, .string ⟨#[]⟩] rfl (by kernel_rfl) (by kernel_rfl) (by kernel_rfl)
      (OpenSpec.preRow_of_cond 8 hx (by kernel_rfl) (fun k hk => by cases hk) (by kernel_rfl) (laid_met os _))) ?_
  intro W base args ds gs before hval hW _ hcond hreach hL _ _
  obtain ⟨p, q, hA0, hV, hpq, hfz, hnd⟩ := id hW
  obtain ⟨rfl, _⟩ := trodVars_none hV
  rw [List.append_nil] at hreach
  exact contract H enc W base args ds [] before hval hW hreach (handle_of_laid hL)

theorem said : Rows.WireBackSaid :=
  OpenClaim.holds_of_cond 5 Tryd.f5 rfl rfl rfl rfl rfl rfl rfl ⟨rfl, rfl, rfl, rfl, rfl⟩ rfl rfl rfl rfl rfl (by kernel_rfl) Tryd.func5 (by kernel_rfl)
    (of_decide_eq_true (by kernel_rfl)) (by unfold Func.isWrapper; first | (rw [if_pos (by decide +kernel)]; kernel_rfl) | (rw [if_neg (by decide +kernel)]; exact ⟨rfl, rfl⟩))
    (fun os started H enc _ F => by rw [OpenClaim.pre_eq_preRow]; exact lifted os started H enc F)

theorem plain (f : FuncId) (fn : Func) (hf : Tryd.pinned.checked.prog.funcNamed "stillage/stillagelaw03.WireBack" = some f) (hfn : Tryd.pinned.checked.prog.funcs[f]? = some fn) :
    true = Tryd.pinned.checked.prog.looks [] ∧ ∀ (j : Nat) t, fn.params[j]? = some t → Tryd.pinned.checked.prog.wantsStandIn t = false := by
  obtain rfl : f = 5 := Option.some.inj ((show Tryd.prog.funcNamed "stillage/stillagelaw03.WireBack" = some 5 by kernel_rfl).symm.trans hf) |>.symm
  obtain rfl : fn = Tryd.f5 := (Option.some.inj (Tryd.func5.symm.trans hfn)).symm
  refine ⟨by kernel_rfl, fun j t ht => ?_⟩
  rw [Tryd.params5] at ht
  have hm : t ∈ [22, 45, 9] := by simpa using Array.mem_of_getElem? ht
  have hall : ([22, 45, 9].all fun u => !Tryd.prog.wantsStandIn u) = true := by kernel_rfl
  exact (show Tryd.prog.wantsStandIn t = false by simpa using List.all_eq_true.1 hall t hm)

/-- THE CARD -/
theorem card : Rows.WireBackCardSaid :=
  Claim7.holds_tied_plain_at .later [] _ _ _ _ said (fun _ h => by cases h) (by kernel_rfl) (fun _ h => by cases h) wireBack_row_tie rfl ⟨rfl, rfl⟩ (by kernel_rfl) rfl plain (by kernel_rfl)

end Go.Proofs.YtmcmhmcihbhmhaaDoor.back
