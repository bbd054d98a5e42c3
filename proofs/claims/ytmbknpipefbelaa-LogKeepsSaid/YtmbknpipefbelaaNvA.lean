/-
  A log's numbers: a number in so many bytes, a sector's noughts, sector 0; strings.Repeat of one nought.
-/
import Derived.Test.YtmbknpipefbelaaNvRep
import Derived.Test.YtmbknpipefbelaaNvMath
import Derived.Test.YtmbknpipefbelaaDskC
import Derived.Test.YtmbknpipefbelaaDskX
import Derived.IntWalk
import Derived.OwnWalk
import Derived.Laws.MakeOwn
import Derived.Laws.OwnMore
import Derived.Maps.AppendAt
import Derived.RangeFuncBox
import Derived.Lib.Strings
import Derived.Laws.BytesArg
import Derived.Deep.QuietTactic
import Derived.BigRegion
namespace Go.Proofs.Ytmbknpipefbelaa
open Go.RowKit Go Go.Maps SM

theorem extra : Builder.Extra Try.prog Try.lays105_ren := {
  sizeBuilder := by kernel_rfl
  liesBuilder := by kernel_rfl
  t5 := Try.lays105.t5
  a5 := Try.lays105.a5
  z5 := Try.lays105.z5
  v5 := Try.lays105.v5
  infoByte := by kernel_rfl
  cellsByte := by kernel_rfl
  sizeByte := by kernel_rfl
  neB5 := by decide }
def zeros (k : Nat) : ByteArray := ⟨(List.replicate k (0 : UInt8)).toArray⟩
theorem size_zeros (k : Nat) : (zeros k).size = k := by simp [zeros, ByteArray.size]
theorem repeat_one : ∀ k : Nat, Lib.repeatL [(0 : UInt8)] k = List.replicate k 0
  | 0 => rfl
  | k + 1 => by
    have h := repeat_one k
    simp only [Lib.repeatL, List.replicate_succ] at h ⊢
    rw [h]; rfl
theorem repeat_any (k : Nat) (hk : k ≤ 64) (w : World) :
    Calls Try.prog 73 #[.string ⟨#[0]⟩, .int .i64 k] w fun e w' => e = .returned (.string (zeros k)) ∧ Below w.heap.size w w' := by
  have h := Any.strings_Repeat Try.lays105 extra ⟨#[0]⟩ k w (by omega) (by show 1 * k ≤ _; omega)
  have e : (⟨(Lib.repeatL (⟨#[0]⟩ : ByteArray).data.toList k).toArray⟩ : ByteArray) = zeros k := by
    show (⟨(Lib.repeatL [(0 : UInt8)] k).toArray⟩ : ByteArray) = _
    rw [repeat_one]; rfl
  rw [e] at h
  exact h

/-! ### a text's bytes, noughts behind them -/
def fillB (s : ByteArray) : ByteArray := s ++ zeros (64 - s.size)
theorem fill_any (s : ByteArray) (hs : s.size ≤ 64) (w : World) :
    Calls Try.prog 53 #[.string s] w fun e w' => e = .returned (.string (fillB s)) ∧ Below w.heap.size w w' := by
  have C := fun w => repeat_any (64 - s.size) (by omega) w
  rw [show ((64 - s.size : Nat) : Int) = 64 - (s.size : Int) by omega] at C
  have HF := Lib.hid (show fillB s = s ++ zeros (64 - s.size) from rfl)
  have hz : (zeros (64 - s.size)).size ≤ 64 := by rw [size_zeros]; omega
  generalize zeros (64 - s.size) = Z at C HF hz
  have nsum : ¬ 9223372036854775807 < s.size + Z.size := by omega
  go_enter Try.func53, Try.ntmps53
  go_wp2_with fail
  refine (C _).mono ?_
  rintro e w' ⟨rfl, hB⟩
  go_wp2
  go_ret
  exact ⟨by rw [HF.out]; rfl, hB⟩

/-! ### a number in so many bytes -/
def u8c (l : List UInt8) : List Value := l.map fun b => Value.int .u8 b.toNat
theorem u8c_snoc (l : List UInt8) (x : UInt8) : u8c (l ++ [x]) = u8c l ++ [.int .u8 x.toNat] := by simp [u8c]
def bsL (l : List UInt8) : ByteArray := ⟨l.toArray⟩
theorem size_bsL (l : List UInt8) : (bsL l).size = l.length := by simp [bsL, ByteArray.size]
theorem bsL_append (a b : List UInt8) : bsL (a ++ b) = bsL a ++ bsL b := by
  apply ByteArray.ext
  simp [bsL, ByteArray.data_append]
theorem bsL_data (x : ByteArray) : bsL x.data.toList = x := ByteArray.ext (by simp [bsL])
theorem data_bsL (l : List UInt8) : (bsL l).data.toList = l := by simp [bsL]
theorem row_cells' {W : World} {base : Nat} {e : TypeId} {v : Value} {n : Nat} {xs : List Value} (h : W.ownsRow base e 1 v n xs) (hv : v ≠ .slice none 0 0) :
    ∃ g cap, v = .slice (some ⟨g, 0, none⟩) n cap ∧ base ≤ g ∧ g < W.heap.size ∧ n ≤ cap ∧ cap ≤ maxLen ∧ ∀ (i : Nat) u, xs[i]? = some u → W.cell? ⟨g, i, none⟩ = some u := by
  rcases h.2 with ⟨e, _⟩ | ⟨g, cap, cur, h1, h2, h3, h4, h5, h6, h7⟩
  · exact absurd e hv
  · refine ⟨g, cap, h1, h2, (Array.getElem?_eq_some_iff.1 h3).1, h4, h5, fun i u hu => ?_⟩
    have hi : i < n := by
      have := (List.getElem?_eq_some_iff.1 hu).1
      have := h.1
      omega
    rw [← h7, List.getElem?_take_of_lt (by omega)] at hu
    simp only [World.cell?, h3]
    simpa using hu
/-- bytes of a row of the call's own, as a text -/
theorem conv_row (W : World) (base : Nat) (v : Value) (l : List UInt8) (h : W.ownsRow base 5 1 v l.length (u8c l)) :
    (convert 43 9 v).run Try.prog W = .ok (.string (bsL l)) W := by
  by_cases hv : v = .slice none 0 0
  · have hl : l.length = 0 := by
      rcases h.2 with ⟨_, e⟩ | ⟨g, cap, cur, h1, _⟩
      · exact e
      · rw [hv] at h1; cases h1
    obtain rfl : l = [] := List.eq_nil_of_length_eq_zero hl
    subst hv
    exact run_convert_bytes_nil W 43 5 Try.underlying43 Try.underlying5 0 0 9 Try.underlying9
  · obtain ⟨g, cap, rfl, _, _, _, _, hc⟩ := row_cells' h hv
    exact run_convert_bytes_back W 43 9 5 ⟨g, 0, none⟩ cap l Try.underlying43 Try.underlying5 Try.underlying9 (fun j hj => by
      rw [Addr.add_lit, Nat.zero_add, hc j (.int .u8 (l[j].toNat : Nat)) (by simp [u8c, hj])])
theorem byte_wrap (n : Nat) : IntKind.u8.wrap (n : Int) = ((UInt8.ofNat (n % 256)).toNat : Int) := by
  show (n : Int) % 256 = _
  simp
theorem take_leN : ∀ (k j n : Nat), j ≤ k → (leN n k).take j = leN n j
  | _, 0, _, _ => by simp [leN]
  | k + 1, j + 1, n, h => by rw [leN, List.take_succ_cons, take_leN k j _ (by omega), leN]
set_option maxRecDepth 100000 in
set_option maxHeartbeats 1000000 in
theorem number_any (n k : Nat) (hn : n ≤ 9223372036854775807) (hk : k ≤ 8) (w : World) :
    Calls Try.prog 32 #[.int .i64 n, .int .i64 k] w fun e w' => e = .returned (.string (bsL (leN n k))) ∧ Below w.heap.size w w' := by
  obtain ⟨i0, hi, hz0, hz1, hz2⟩ := info_parts info5e
  have hk8 : (k : Int) ≤ 8 := by omega
  go_enter Try.func32, Try.ntmps32
  go_wp2
  go_loopw [5, 0, 7] (fun v m i wr => ∃ j : Nat, j ≤ k ∧ i = .int .i64 j ∧ m = .int .i64 ((n / 256 ^ j : Nat) : Int) ∧ wr.ownsRow w.heap.size 5 1 v (leN n j).length (u8c (leN n j)) ∧ Below w.heap.size w wr) (fun _ _ i _ => k - (intOf i).toNat)
  case atStart => exact ⟨0, Nat.zero_le _, rfl, by simp, World.ownsRow_nil _ _ _ _, Below.refl _ _⟩
  case round =>
    obtain ⟨j, hj, rfl, rfl, hrow, hB⟩ := hrel
    by_cases hlt : j < k
    · have hji : (j : Int) < (k : Int) := by omega
      have HS := Lib.hid (show leN n (j + 1) = leN n j ++ [UInt8.ofNat (n / 256 ^ j % 256)] from leN_snoc j n)
      have HP := Lib.hid (show n / 256 ^ (j + 1) = n / 256 ^ j / 256 by rw [Nat.div_div_eq_div_mul, Nat.pow_succ])
      have hle : n / 256 ^ j ≤ 9223372036854775807 := Nat.le_trans (Nat.div_le_self _ _) hn
      have hbw := byte_wrap (n / 256 ^ j)
      have hlen := length_leN n j
      generalize n / 256 ^ j = q at *
      generalize UInt8.ofNat (q % 256) = x at *
      generalize leN n j = L at *
      have hszW : w.heap.size ≤ wr.heap.size := hB.size
      go_wp2_with (at_builtin; refine wpList_append_own _ rfl _ _ 43 rfl w.heap.size 5 i0 (.int .u8 0) 1 1 Try.underlying43 hi hz0 hz1 hz2 rfl (by decide) _ _ _ rfl (hrow.alloc _) ⟨wr.heap.size, 0, none⟩ 1 1 [.int .u8 x.toNat] rfl rfl (cell_one_new _ _ _) (by simp [Value.oneCell']) (by unfold maxLen; omega) (by omega) (by simp; omega) ?_; intro v' w1 hown' hgrow _)
      have hB1 : Below w.heap.size w w1 := (hB.alloc hszW _).grown hgrow (by simp; omega) (fun j ej => (hrow.lt j ej).1)
      go_roundw
      case rel => exact ⟨j + 1, by omega, by go_num, by rw [HP.out]; go_num, by rw [HS.out, List.length_append, u8c_snoc]; exact hown', hB1⟩
      case measure => simp [intOf]; omega
    · obtain rfl : j = k := by omega
      have hcv := conv_row wr w.heap.size _ _ hrow
      have HB := Lib.hid hB
      clear hlt hrow hB hj hk8 hk
      go_wp2
      go_ret
      exact ⟨rfl, HB.out⟩

/-! ### sector 0 -/
theorem bsL_head (gen used : Nat) : fillB ((⟨#[78, 86]⟩ : ByteArray) ++ bsL (leN gen 6) ++ bsL (leN used 4)) = headB gen used := by
  apply ByteArray.ext
  apply Array.toList_inj.1
  simp [fillB, headB, headL, ByteArray.data_append, bsL, zeros, length_leN, ByteArray.size]
theorem first_any (gen used : Nat) (hg : gen ≤ 9223372036854775807) (hu : used ≤ 9223372036854775807) (w : World) :
    Calls Try.prog 55 #[.int .i64 gen, .int .i64 used] w fun e w' => e = .returned (.string (headB gen used)) ∧ Below w.heap.size w w' := by
  have C1 := fun w => number_any gen 6 hg (by omega) w
  have C2 := fun w => number_any used 4 hu (by omega) w
  have HE := Lib.hid (bsL_head gen used)
  have hs1 : (bsL (leN gen 6)).size = 6 := by rw [size_bsL, length_leN]
  have hs2 : (bsL (leN used 4)).size = 4 := by rw [size_bsL, length_leN]
  have C3 := fun w => fill_any ((⟨#[78, 86]⟩ : ByteArray) ++ bsL (leN gen 6) ++ bsL (leN used 4)) (by rw [ByteArray.size_append, ByteArray.size_append, hs1, hs2]; decide) w
  generalize bsL (leN gen 6) = X at *
  generalize bsL (leN used 4) = Y at *
  go_enter Try.func55, Try.ntmps55
  go_wp2_with fail
  refine (C1 _).mono ?_
  rintro e w1 ⟨rfl, hB1⟩
  go_wp2_with fail
  refine (C2 _).mono ?_
  rintro e w2 ⟨rfl, hB2⟩
  go_wp2_with fail
  refine (C3 _).mono ?_
  rintro e w3 ⟨rfl, hB3⟩
  have HB := Lib.hid ((hB1.trans (hB2.mono hB1.size)).trans (hB3.mono (hB1.trans (hB2.mono hB1.size)).size))
  clear hB1 hB2 hB3
  go_wp2
  go_ret
  exact ⟨by rw [HE.out]; rfl, HB.out⟩

/-! ### how many sectors a half has -/
section
variable {b g m : Nat} {s : DS} {w w' : World}
def halfN (s : DS) : Nat := (s.stay.length - 1) / 2
theorem half_any (h : DiskAt b g m s w) :
    Calls Try.prog 64 #[.pointer (some ⟨b, 0, none⟩)] w fun e w' => e = .returned (.int .i64 (halfN s)) ∧ w = w' := by
  have C := sectors_any h
  have h1 := h.1.pos
  have h2 := h.1.le
  unfold halfN
  generalize s.stay.length = N at *
  obtain ⟨M, rfl⟩ : ∃ M, N = M + 1 := ⟨N - 1, by omega⟩
  have e1 : ((M + 1 : Nat) : Int) - 1 = (M : Int) := by omega
  have e2 : ((M + 1 - 1) / 2 : Nat) = M / 2 := by omega
  rw [e2]
  have HE := Lib.hid (show (M : Int).tdiv 2 = ((M / 2 : Nat) : Int) by rw [Int.tdiv_eq_ediv_of_nonneg (by omega)]; omega)
  clear h
  go_enter Try.func64, Try.ntmps64
  go_wp2_with fail
  refine C.mono ?_
  rintro e w' ⟨rfl, rfl⟩
  go_wp2
  go_ret
  exact ⟨rfl, rfl⟩
theorem halfSize_any (h : DiskAt b g m s w) :
    Calls Try.prog 41 #[.pointer (some ⟨b, 0, none⟩)] w fun e w' => e = .returned (.int .i64 (64 * halfN s : Nat)) ∧ w = w' := by
  have C := half_any h
  have hle : halfN s ≤ 16384 := by have := h.1.le; unfold halfN; omega
  generalize halfN s = N at *
  clear h
  go_enter Try.func41, Try.ntmps41
  go_wp2_with fail
  refine C.mono ?_
  rintro e w' ⟨rfl, rfl⟩
  go_wp2
  go_ret
  exact ⟨by simp [Nat.mul_comm], rfl⟩
end
end Go.Proofs.Ytmbknpipefbelaa
