/-
  The iterator over a set's numbers.
-/
import Derived.Test.YtknfakaklmpboaaSetsC
namespace Go.Proofs.Ytknfakaklmpboaa
open Go.RowKit Go.Shelf Go SM
attribute [local go_sem] Oper.semAt_some

abbrev encs1 (p : Nat) : Array Value := #[.int .i64 p]
/-- what is still to come at byte i with the mask m -/
def restN (l : List UInt8) (i : Nat) (m : UInt8) : List Nat := if i < l.length then seg (band (gd l i) m) i ++ segs l (i + 1) (l.length - (i + 1)) else []
theorem nums_rest (l : List UInt8) (f : Nat) : nums l f = restN l (f / 8) (mask0 f) := rfl
theorem band_255 (b : UInt8) : band b 255 = b := u8_ext fun k hk => by
  have e : mask0 0 = 255 := by decide +kernel
  rw [tb_band, ← e, tb_mask _ _ hk]; simp
theorem mask0_int (f : Nat) : ((mask0 f).toNat : Int) = 255 * 2 ^ (f % 8) % 256 := by
  unfold mask0
  simp
theorem restN_full (l : List UInt8) (i : Nat) : restN l i 255 = segs l i (l.length - i) := by
  unfold restN
  split
  · rename_i h
    rw [show l.length - i = (l.length - (i + 1)) + 1 by omega, segs, band_255]
  · rw [show l.length - i = 0 by omega]; rfl
theorem seg_zero (i : Nat) : seg 0 i = [] := by simp [seg, bitsOf_zero]
theorem seg_step (b : UInt8) (i : Nat) (h : b ≠ 0) : seg b i = (8 * i + Lib.trailingZeros8 b.toNat) :: seg (band b (b - 1)) i := by
  rw [seg, bitsOf_step b h]; rfl
theorem u8_sub_one (b : UInt8) (h : b ≠ 0) : ((b - 1).toNat : Int) = (b.toNat : Int) - 1 := by
  have h0 : b.toNat ≠ 0 := fun e => h (UInt8.toNat_inj.1 (by simpa using e))
  have := b.toNat_lt
  have e : (b - 1).toNat = b.toNat - 1 := by
    rw [UInt8.toNat_sub]; simp; omega
  omega
theorem band_lt (b : UInt8) (h : b ≠ 0) : (band b (b - 1)).toNat < b.toNat := by
  have h0 : b.toNat ≠ 0 := fun e => h (UInt8.toNat_inj.1 (by simpa using e))
  have e := u8_sub_one b h
  have : (band b (b - 1)).toNat ≤ (b - 1).toNat := by simp only [band, UInt8.toNat_and]; exact Nat.and_le_right
  omega

set_option maxRecDepth 100000 in
set_option maxHeartbeats 2000000 in
theorem numbers1_in (n : Nat) (hn : 2 ≤ n) (l Bf Bs : Nat) (s : ByteArray) (f : Nat) (hs : s.size ≤ 140737488355328) (hf : f ≤ 9223372036854775807) (J Jx : List Nat → World → Prop)
    (hY : ∀ pre x W, J pre W → pre.length < (nums s.data.toList f).length → YieldAt Fence.wide (n - 1) Try.prog l (encs1 x) W fun e W' =>
      (e = .returned (.bool true) ∧ J (pre ++ [x]) W' ∧ KeepB [(Bs, 9, .string s)] W W') ∨ (e = .returned (.bool false) ∧ Jx (pre ++ [x]) W'))
    (W : World) (hBf : Boxed W Bf 3 (.int .i64 f)) (hBs : Boxed W Bs 9 (.string s)) (h0 : J [] W) :
    CallsIn Fence.wide n Try.prog 27 #[.func (.yield l) #[] #[], .pointer (some ⟨Bf, 0, none⟩), .pointer (some ⟨Bs, 0, none⟩)] W fun e W' => (∃ v, e = .returned v) ∧
      ((∃ ys, ys = nums s.data.toList f ∧ J ys W') ∨ (∃ pre, pre <+: nums s.data.toList f ∧ Jx pre W')) := by
  have hcf := hBf.cell
  have hcs := hBs.cell
  have hro : Fence.wide.round = none := rfl
  refine callsIn_of_wp Try.func27 rfl trivial ?_ rfl
  simp only [Try.ntmps27, List.size_toArray, List.length_cons, List.length_nil, Nat.reduceAdd, Nat.reduceSub, Array.replicate_succ, Array.replicate_zero, List.push_toArray, List.append_toArray, List.nil_append, List.cons_append]
  gi_wp2
  gi_loopw [4, 5] (fun m i wr => ∃ (k : Nat) (mk : UInt8) (pre : List Nat), k ≤ max s.size (f / 8) ∧ i = .int .i64 k ∧ m = .int .u8 mk.toNat ∧ Boxed wr Bs 9 (.string s) ∧ nums s.data.toList f = pre ++ restN s.data.toList k mk ∧ J pre wr)
    (fun _ i _ => max s.size (f / 8) - (intOf i).toNat)
  case atStart => exact ⟨f / 8, mask0 f, [], Nat.le_max_right _ _, by simp, by rw [mask0_int], hBs, nums_rest _ _, h0⟩
  case round =>
    obtain ⟨k, mk, pre, hk, rfl, rfl, hbs, hN, hj⟩ := hrel
    have hcs := hbs.cell
    by_cases hlt : k < s.size
    · have hb : bits .and .u8 (s[k].toNat : Int) (mk.toNat : Int) = ((band (gd s.data.toList k) mk).toNat : Int) := by rw [bits_and, gd_get hlt]
      rw [restN, if_pos (by simpa using hlt)] at hN
      generalize band (gd s.data.toList k) mk = b0 at hb hN
      have HN := Lib.hid hN
      clear hN
      gi_wp2
      clear hb hcs
      obtain ⟨wo, rfl⟩ : ∃ wo : World, wo = wr := ⟨_, rfl⟩
      gi_loopw [6] (fun b wr => ∃ (bb : UInt8) (pre : List Nat), b = .int .u8 bb.toNat ∧ Boxed wr Bs 9 (.string s) ∧ nums s.data.toList f = pre ++ (seg bb k ++ segs s.data.toList (k + 1) (s.data.toList.length - (k + 1))) ∧ J pre wr)
        (fun b _ => (intOf b).toNat)
      case atStart => exact ⟨b0, pre, rfl, hbs, HN.out, hj⟩
      case round =>
        obtain ⟨bb, pre2, rfl, hbs2, hN2, hj2⟩ := hrel
        have hcs := hbs2.cell
        by_cases hz : bb = 0
        · subst hz
          rw [seg_zero, List.nil_append, show s.data.toList.length - (k + 1) = s.data.toList.length - (k + 1) from rfl, ← restN_full] at hN2
          have HN2 := Lib.hid hN2
          clear hN2
          have hz2 : (((0 : UInt8).toNat : Int) != 0) = false := by decide
          gi_wp2
          go_roundw
          case rel => exact ⟨k + 1, 255, pre2, by omega, by go_num, rfl, hbs2, HN2.out, hj2⟩
          case measure => simp [intOf]; omega
        · rw [seg_step bb k hz] at hN2
          have htz : Lib.trailingZeros8 bb.toNat ≤ 8 := Lib.trailingZeros8_le8 ⟨bb.toNat, bb.toNat_lt⟩
          have hY1 := hY pre2 (8 * k + Lib.trailingZeros8 bb.toNat) wr hj2 (by rw [hN2]; simp)
          have HN3 := Lib.hid (show nums s.data.toList f = (pre2 ++ [8 * k + Lib.trailingZeros8 bb.toNat]) ++ (seg (band bb (bb - 1)) k ++ segs s.data.toList (k + 1) (s.data.toList.length - (k + 1))) by rw [hN2]; simp)
          clear hN2
          have hY2 := YieldAt.mono (R' := fun e W' => ∃ ok : Bool, e = .returned (.bool ok) ∧ (ok = true → J (pre2 ++ [8 * k + Lib.trailingZeros8 bb.toNat]) W' ∧ KeepB [(Bs, 9, .string s)] wr W') ∧ (ok = false → Jx (pre2 ++ [8 * k + Lib.trailingZeros8 bb.toNat]) W')) hY1 (by
            rintro e W' (⟨rfl, h1, h2⟩ | ⟨rfl, h1⟩)
            · exact ⟨true, rfl, (fun _ => ⟨h1, h2⟩), (fun h => by cases h)⟩
            · exact ⟨false, rfl, (fun h => by cases h), fun _ => h1⟩)
          obtain ⟨fn, tmps, assign, body, hy, hR⟩ := hY2
          simp only [encs1, Int.natCast_add, Int.natCast_mul, Int.cast_ofNat_Int] at hy
          have HR := Lib.hid hR
          clear hY1 hR
          have hdn : 1 ≤ n - 1 := by omega
          have hdn1 : 1 ≤ n := by omega
          have hz2 : ((bb.toNat : Int) != 0) = true := by rw [bne, u8_ne hz]; rfl
          have h1b : 1 ≤ bb.toNat := by
            rcases Nat.eq_zero_or_pos bb.toNat with h | h
            · exact absurd (UInt8.toNat_inj.1 (by simpa using h)) hz
            · exact h
          have hbl := bb.toNat_lt
          have hbits : bits .and .u8 (bb.toNat : Int) ((bb.toNat : Int) - 1) = ((band bb (bb - 1)).toNat : Int) := by rw [← u8_sub_one bb hz, bits_and]
          have hlt2 := band_lt bb hz
          generalize band bb (bb - 1) = bn at hbits hlt2 HN3
          gi_wp2_with (first
            | (refine ⟨trivial, ?_⟩; gi_at_call 28; refine (callsIn_wide.2 (tz8 _ _)).mono ?_; rintro e w' ⟨rfl, rfl⟩)
            | (refine HR.out.mono ?_; rintro e W' ⟨ok, rfl, hb1, hb2⟩))
          · have hok : ok = false := by
              have h : (!ok) = true := by assumption
              simpa using h
            refine bodyPost_ret (results_none rfl _ _ _) rfl ?_
            exact ⟨⟨_, rfl⟩, .inr ⟨_, ⟨_, HN3.out.symm⟩, hb2 hok⟩⟩
          · have hok : ok = true := by
              have h : (!ok) = false := by assumption
              simpa using h
            obtain ⟨hx, hkb⟩ := hb1 hok
            go_roundw
            case rel => exact ⟨bn, _, rfl, hkb (Bs, 9, .string s) (by simp) hbs2, HN3.out, hx⟩
            case measure => simp [intOf]; omega
    · have hkk : k = max s.size (f / 8) ∨ True := .inr trivial
      rw [restN, if_neg (by simpa using hlt), List.append_nil] at hN
      have HN := Lib.hid hN
      clear hN hkk
      gi_wp2
      go_end0
      exact ⟨⟨_, rfl⟩, .inl ⟨_, rfl, by rw [HN.out]; exact hj⟩⟩
/-- THE ITERATOR'S CONTRACT: the numbers from one on, rising. -/
theorem numbers_stops (n : Nat) (hn : 2 ≤ n) (Bf Bs : Nat) (s : ByteArray) (f : Nat) (hs : s.size ≤ 140737488355328) (hf : f ≤ 9223372036854775807) (w : World)
    (hBf : Boxed w Bf 3 (.int .i64 f)) (hBs : Boxed w Bs 9 (.string s)) :
    SeqStopsK Fence.wide n Try.prog 27 #[.pointer (some ⟨Bf, 0, none⟩), .pointer (some ⟨Bs, 0, none⟩)] encs1 (KeepB [(Bs, 9, .string s)])
      (fun ys => ys = nums s.data.toList f) (fun pre => pre <+: nums s.data.toList f) (nums s.data.toList f).length w := fun l J Jx W hW _ _ hY h0 =>
  numbers1_in n hn l Bf Bs s f hs hf J Jx hY W ((hW.block Bf hBf.lt).trans hBf) ((hW.block Bs hBs.lt).trans hBs) h0

/-- numbers(s, from): s and the first number are boxed; the function value captures the boxes. -/
theorem numbers_in (n : Nat) (s : ByteArray) (f : Int) (w : World) :
    CallsIn Fence.wide n Try.prog 26 #[.string s, .int .i64 f] w fun e w' => e = .returned (.func (.func 27) #[] #[.pointer (some ⟨w.heap.size + 1, 0, none⟩), .pointer (some ⟨w.heap.size, 0, none⟩)]) ∧ w' = (w.alloc (.cells #[.string s] 9)).alloc (.cells #[.int .i64 (max f 0)] 3) := by
  refine callsIn_of_wp Try.func26 rfl trivial ?_ rfl
  simp only [Try.ntmps26, List.size_toArray, List.length_cons, List.length_nil, Nat.reduceAdd, Nat.reduceSub, Array.replicate_succ, Array.replicate_zero, List.push_toArray, List.append_toArray, List.nil_append, List.cons_append]
  gi_wp2
  go_ret
  exact ⟨rfl, rfl⟩
end Go.Proofs.Ytknfakaklmpboaa

