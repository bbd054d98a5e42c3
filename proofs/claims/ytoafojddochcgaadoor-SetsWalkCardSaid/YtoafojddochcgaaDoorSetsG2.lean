/-
  The reference's Next and Gap.
-/
import Derived.Test.YtoafojddochcgaaDoorSetsG1
namespace Go.Proofs.YtoafojddochcgaaDoor
open Go.RowKit Go.Shelf Go SM

theorem nums_filter (l : List UInt8) (f : Nat) : nums l f = (nums l 0).filter fun n => decide (f ≤ n) := by
  refine sorted_ext _ _ (sorted_nums l f) (List.Pairwise.filter _ (sorted_nums l 0)) fun n => ?_
  simp only [List.mem_filter, mem_nums, decide_eq_true_eq]
  constructor
  · rintro ⟨h1, h2⟩; exact ⟨⟨Nat.zero_le _, h2⟩, h1⟩
  · rintro ⟨⟨_, h2⟩, h1⟩; exact ⟨h1, h2⟩
/-- all of [f, g) are in the set: the numbers from f on are these, and those from g on -/
theorem nums_split (l : List UInt8) (f g : Nat) (hfg : f ≤ g) (h : ∀ j, f ≤ j → j < g → bit l j = true) : nums l f = List.range' f (g - f) ++ nums l g := by
  refine sorted_ext _ _ (sorted_nums l f) ?_ fun n => ?_
  · rw [List.pairwise_append]
    refine ⟨List.pairwise_lt_range', sorted_nums l g, fun a ha b hb => ?_⟩
    have h1 := List.mem_range'_1.1 ha
    have h2 := (mem_nums.1 hb).1
    omega
  · simp only [List.mem_append, mem_nums, List.mem_range'_1]
    constructor
    · rintro ⟨h1, h2⟩
      by_cases hn : n < g
      · left; omega
      · right; exact ⟨by omega, h2⟩
    · rintro (⟨h1, h2⟩ | ⟨h1, h2⟩)
      · exact ⟨h1, h n h1 (by omega)⟩
      · exact ⟨by omega, h2⟩
theorem run_full (l : List UInt8) (f g : Nat) (hfg : f ≤ g) (h : ∀ j, f ≤ j → j < g → bit l j = true) : g ≤ run (nums l f) f := by
  rw [nums_split l f g hfg h, run_range, show f + (g - f) = g by omega]
  exact run_ge _ _
theorem run_stop (l : List UInt8) (f g : Nat) (hfg : f ≤ g) (h : ∀ j, f ≤ j → j < g → bit l j = true) (hg : bit l g = false) : run (nums l f) f = g := by
  rw [nums_split l f g hfg h, run_range, show f + (g - f) = g by omega]
  cases hn : nums l g with
  | nil => rfl
  | cons x r =>
    rw [run, if_neg]
    intro e
    have := (mem_nums (l := l) (from_ := g) (n := x)).1 (by rw [hn]; simp)
    rw [e, hg] at this
    cases this.2

set_option maxRecDepth 100000 in
set_option maxHeartbeats 2000000 in
theorem rnext_any (s : ByteArray) (f : Int) (hs : s.size ≤ 2199023255552) (w : World) :
    Calls Tryd.prog 27 #[.string s, .int .i64 f] w fun e w' => e = .returned (nextV s.data.toList f) ∧ Below w.heap.size w w' := by
  go_enter Tryd.func27, Tryd.ntmps27
  go_wp2_with fail
  refine (rlist_any s hs _).mono ?_
  rintro e w1 ⟨v, rfl, hown, hB1⟩
  have HV := Lib.hid (intsAt_of_owns hown)
  have hlen := length_nums s.data.toList 0
  rw [show s.data.toList.length = s.size by simp] at hlen
  clear hown
  obtain ⟨a, cap, rfl, ha⟩ := HV.out.split
  rw [length_toInts]
  have HA := Lib.hid ha
  clear ha
  have HF := Lib.hid (nums_filter s.data.toList f.toNat)
  have hnx : nextV s.data.toList f = match (nums s.data.toList f.toNat).head? with
      | some x => .tuple #[.int .i64 x, .bool true]
      | none => .tuple #[.int .i64 0, .bool false] := rfl
  have HX := Lib.hid hnx
  clear hnx
  generalize hVe : nextV s.data.toList f = V at HX
  have HVe := Lib.hid hVe
  clear hVe
  generalize nums s.data.toList f.toNat = nf at HX HF
  generalize nums s.data.toList 0 = ns at HV HA HF hlen
  have hlt0 : ns.length ≤ 281474976710656 := by omega
  go_wp2
  by_cases h0 : ns = []
  · have HV0 := Lib.hid (show V = .tuple #[.int .i64 0, .bool false] by rw [HX.out, HF.out, h0]; rfl)
    have hl0 : ns.length = 0 := by rw [h0]; rfl
    rw [hl0]
    clear h0 hl0 hlt0 hlen
    refine wp_loop_rounds 1 ?_
    rw [rounds_succ]
    go_wp2
    go_ret2
    exact ⟨by rw [HVe.out, HV0.out]; rfl, hB1⟩
  · obtain ⟨b, off, rfl, hb, hc⟩ := HA.out (by simpa [toInts] using h0)
    have HC := Lib.hid hc
    clear hc HA HV h0
    go_loop [7] (fun i => ∃ k : Nat, k ≤ ns.length ∧ i = .int .i64 k ∧ (ns.take k).filter (fun n => decide (f.toNat ≤ n)) = []) (fun i => ns.length - (intOf i).toNat)
    case atStart => exact ⟨0, Nat.zero_le _, rfl, rfl⟩
    case round =>
      obtain ⟨k, hk, rfl, hno⟩ := hrel
      have HN := Lib.hid hno
      clear hno
      by_cases hlt : k < ns.length
      · have hcell : w1.cell? ⟨b, off + k, none⟩ = some (.int .i64 (ns[k] : Nat)) := by
          have := HC.out k (by simpa [toInts] using hlt)
          simpa [toInts] using this
        have HS := Lib.hid (List.take_succ_eq_append_getElem hlt)
        have HD := Lib.hid (List.drop_eq_getElem_cons hlt)
        generalize ns[k] = x at hcell HS HD
        by_cases hx : f ≤ (x : Int)
        · have HV0 := Lib.hid (show V = .tuple #[.int .i64 x, .bool true] by
            have e : nf = x :: (ns.drop (k + 1)).filter (fun n => decide (f.toNat ≤ n)) := by
              rw [HF.out]
              conv => lhs; rw [← List.take_append_drop k ns, List.filter_append, HN.out, HD.out]
              rw [List.nil_append, List.filter_cons, if_pos (by simp; omega)]
            rw [HX.out, e]; rfl)
          go_wp2
          go_ret2
          exact ⟨by rw [HVe.out, HV0.out]; rfl, hB1⟩
        · have HN2 := Lib.hid (show (ns.take (k + 1)).filter (fun n => decide (f.toNat ≤ n)) = [] by
            rw [HS.out, List.filter_append, HN.out, List.nil_append, List.filter_cons, if_neg (by simp; omega)]; rfl)
          go_wp2
          go_round
          case rel => exact ⟨k + 1, by omega, by go_num, HN2.out⟩
          case measure => simp [intOf]; omega
      · have HV0 := Lib.hid (show V = .tuple #[.int .i64 0, .bool false] by
          have e : nf = [] := by
            rw [HF.out]
            have := HN.out
            rwa [List.take_of_length_le (by omega)] at this
          rw [HX.out, e]; rfl)
        go_wp2
        go_ret2
        exact ⟨by rw [HVe.out, HV0.out]; rfl, hB1⟩

/-- the n-th place that the reference's Gap looks at -/
def placeR (f : Int) (k : Nat) : Int := if (k : Int) < f then f + k else k

set_option maxRecDepth 100000 in
set_option maxHeartbeats 2000000 in
theorem rgap_any (s : ByteArray) (f e : Int) (hs : s.size ≤ 2199023255552) (hl : -9223372036854775808 ≤ f) (hf : f ≤ 9223372036854775807) (w : World) :
    Calls Tryd.prog 29 #[.string s, .int .i64 f, .int .i64 e] w fun r w' => r = .returned (gapV s.data.toList f e) ∧ w = w' := by
  have hgv := fun (h : e ≤ (run (nums s.data.toList f.toNat) f.toNat : Nat)) => gapV_no (l := s.data.toList) (f := f) (e := e) rfl h
  have hgy := fun (g : Nat) (hg : run (nums s.data.toList f.toNat) f.toNat = g) (h : ¬ e ≤ (g : Int)) => gapV_yes (l := s.data.toList) (f := f) (e := e) rfl hg h
  have HG1 := Lib.hid hgv
  have HG2 := Lib.hid hgy
  clear hgv hgy
  have hlen : s.data.toList.length = s.size := by simp
  have HL := Lib.hid hlen
  clear hlen
  go_enter Tryd.func29, Tryd.ntmps29
  go_wp2
  go_loop [8, 9] (fun i _ => ∃ k : Nat, k ≤ 8 * s.size ∧ i = .int .i64 k ∧ (∀ j : Nat, f.toNat ≤ j → (j : Int) < placeR f k → bit s.data.toList j = true) ∧ (0 < k → f < 8 * s.size)) (fun i _ => 8 * s.size + 1 - (intOf i).toNat)
  case atStart => exact ⟨0, Nat.zero_le _, rfl, fun j h1 h2 => by unfold placeR at h2; split at h2 <;> omega, fun h => by omega⟩
  case round =>
    obtain ⟨k, hk, rfl, hall, hpos⟩ := hrel
    have HA := Lib.hid hall
    have HP := Lib.hid hpos
    clear hall hpos
    have hbl : ∀ p : Int, bitI s.data.toList p = true → p < 8 * s.size := fun p hp => by
      simp only [bitI, Bool.and_eq_true, decide_eq_true_eq] at hp
      rcases Nat.lt_or_ge (p.toNat / 8) s.data.toList.length with h | h
      · rw [HL.out] at h; omega
      · rw [bit_ge h] at hp; cases hp.2
    have hbn : ∀ p : Int, 0 ≤ p → bitI s.data.toList p = bit s.data.toList p.toNat := fun p hp => by simp [bitI, hp]
    have HBL := Lib.hid hbl
    have HBN := Lib.hid hbn
    clear hbl hbn
    by_cases hfk : (k : Int) < f
    · have hp1 : f + k ≤ 9223372036854775807 := by
        rcases Nat.eq_zero_or_pos k with h | h
        · subst h; omega
        · have := HP.out h; omega
      have hfull : ((f + k).toNat : Int) ≤ (run (nums s.data.toList f.toNat) f.toNat : Nat) := by
        have := run_full s.data.toList f.toNat (f + k).toNat (by omega) (fun j h1 h2 => HA.out j h1 (by unfold placeR; rw [if_pos hfk]; omega))
        omega
      have HF := Lib.hid hfull
      clear hfull
      by_cases he : e ≤ f + k
      · have HV := Lib.hid (HG1.out (by have := HF.out; omega))
        go_wp2
        go_ret2
        exact ⟨by rw [HV.out]; rfl, rfl⟩
      · cases hb : bitI s.data.toList (f + k) with
        | true =>
          have HB := Lib.hid hb
          have h8 := HBL.out _ hb
          have HN := Lib.hid (show ∀ j : Nat, f.toNat ≤ j → (j : Int) < placeR f (k + 1) → bit s.data.toList j = true from fun j h1 h2 => by
            by_cases hj : (j : Int) < f + k
            · exact HA.out j h1 (by unfold placeR; rw [if_pos hfk]; exact hj)
            · have : j = (f + k).toNat := by
                unfold placeR at h2
                split at h2 <;> omega
              rw [this, ← HBN.out _ (by omega)]; exact HB.out)
          clear hb
          go_wp2_with (go_at_call 21; refine (rhas_any _ _ _ (by omega) (by omega) (by omega)).mono ?_; rintro e w' ⟨rfl, rfl⟩; rw [HB.out])
          go_round
          case rel => exact ⟨k + 1, by omega, by go_num, HN.out, fun _ => by omega⟩
          case measure => simp [intOf]; omega
        | false =>
          have HB := Lib.hid hb
          have HV := Lib.hid (HG2.out (f + k).toNat (run_stop _ _ _ (by omega) (fun j h1 h2 => HA.out j h1 (by unfold placeR; rw [if_pos hfk]; omega)) (by rw [← HBN.out _ (by omega)]; exact hb)) (by omega))
          have HE := Lib.hid (show (((f + k).toNat : Nat) : Int) = f + k by omega)
          clear hb
          go_wp2_with (go_at_call 21; refine (rhas_any _ _ _ (by omega) (by omega) (by omega)).mono ?_; rintro e w' ⟨rfl, rfl⟩; rw [HB.out])
          go_ret2
          exact ⟨by rw [HV.out, HE.out]; rfl, rfl⟩
    · have hfull : (k : Int) ≤ (run (nums s.data.toList f.toNat) f.toNat : Nat) := by
        have := run_full s.data.toList f.toNat k (by omega) (fun j h1 h2 => HA.out j h1 (by unfold placeR; rw [if_neg hfk]; omega))
        omega
      have HF := Lib.hid hfull
      clear hfull
      by_cases he : e ≤ (k : Int)
      · have HV := Lib.hid (HG1.out (by have := HF.out; omega))
        go_wp2
        go_ret2
        exact ⟨by rw [HV.out]; rfl, rfl⟩
      · cases hb : bitI s.data.toList (k : Int) with
        | true =>
          have HB := Lib.hid hb
          have h8 := HBL.out _ hb
          have HN := Lib.hid (show ∀ j : Nat, f.toNat ≤ j → (j : Int) < placeR f (k + 1) → bit s.data.toList j = true from fun j h1 h2 => by
            by_cases hj : (j : Int) < k
            · exact HA.out j h1 (by unfold placeR; rw [if_neg hfk]; exact hj)
            · have : j = k := by
                unfold placeR at h2
                split at h2 <;> omega
              have hb2 := HB.out
              rw [HBN.out _ (by omega)] at hb2
              rw [this]; simpa using hb2)
          clear hb
          go_wp2_with (go_at_call 21; refine (rhas_any _ _ _ (by omega) (by omega) (by omega)).mono ?_; rintro e w' ⟨rfl, rfl⟩; rw [HB.out])
          go_round
          case rel => exact ⟨k + 1, by omega, by go_num, HN.out, fun _ => by omega⟩
          case measure => simp [intOf]; omega
        | false =>
          have HB := Lib.hid hb
          have HV := Lib.hid (HG2.out k (run_stop _ _ _ (by omega) (fun j h1 h2 => HA.out j h1 (by unfold placeR; rw [if_neg hfk]; omega)) (by have := hb; rw [HBN.out _ (by omega)] at this; simpa using this)) (by omega))
          clear hb
          go_wp2_with (go_at_call 21; refine (rhas_any _ _ _ (by omega) (by omega) (by omega)).mono ?_; rintro e w' ⟨rfl, rfl⟩; rw [HB.out])
          go_ret2
          exact ⟨by rw [HV.out]; rfl, rfl⟩
end Go.Proofs.YtoafojddochcgaaDoor
