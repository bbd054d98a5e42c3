/-
  NvRep / NvA / NvB / NvC / NvD / NvE.
-/
import Derived.Shelf.Strings.Repeat
import Derived.Ground.NamesProg
import Derived.Lib.Agree
import Derived.KernelRfl
import Derived.Test.YteboacjniokfpaaGreatDoorProg
import Derived.Test.YteboacjniokfpaaGreatDoorNA
import Derived.Test.YteboacjniokfpaaGreatDoorMB
import Derived.Test.YteboacjniokfpaaGreatDoorMD
import Derived.IntWalk
import Derived.OwnWalk
import Derived.Laws.MakeOwn
import Derived.Laws.OwnMore
import Derived.Maps.AppendAt
import Derived.RangeFuncBox
import Derived.Lib.Strings
import Derived.Laws.BytesArg
import Derived.Deep.QuietTactic
import Derived.BigRegion
import Derived.Lib.ConvBytes
import Derived.Test.YteboacjniokfpaaGreatDoorMC
import Derived.Laws.AppendOwnNone
import Derived.Lib.AppendStr
import Derived.Deep.RegionLaw
import Derived.RegionTactic
import Derived.Deep.RegionHeld3
namespace Go.Proofs
open Go.Shelf
def Tryz.lays105_ren : Go.Shelf.Ren := ⟨fun | 105 => 134 | 212 => 154 | 99 => 155 | 165 => 156 | 166 => 138 | 170 => 157 | 169 => 139 | 263 => 168 | 264 => 169 | 206 => 170 | 240 => 158 | 241 => 171 | 276 => 172 | 277 => 181 | n => n, fun | 9 => 9 | 3 => 3 | 4 => 4 | 20 => 20 | 0 => 0 | 46 => 135 | 109 => 174 | 5 => 5 | 72 => 155 | 76 => 158 | 51 => 188 | 146 => 189 | 53 => 191 | 148 => 192 | 70 => 153 | 37 => 74 | 75 => 157 | 127 => 173 | 164 => 194 | 80 => 43 | n => n, fun | n => n⟩
theorem Tryz.lays105 : Go.Proofs.Lays.n105 Tryz.prog Tryz.lays105_ren := {
  mixed := by kernel_rfl
  f99 := Tryz.func155.trans (congrArg some (by kernel_rfl))
  f105 := Tryz.func134.trans (congrArg some (by kernel_rfl))
  f165 := Tryz.func156.trans (congrArg some (by kernel_rfl))
  f166 := Tryz.func138.trans (congrArg some (by kernel_rfl))
  f169 := Tryz.func139.trans (congrArg some (by kernel_rfl))
  f170 := Tryz.func157.trans (congrArg some (by kernel_rfl))
  f206 := Tryz.func170.trans (congrArg some (by kernel_rfl))
  f212 := Tryz.func154.trans (congrArg some (by kernel_rfl))
  f240 := Tryz.func158.trans (congrArg some (by kernel_rfl))
  f241 := Tryz.func171.trans (congrArg some (by kernel_rfl))
  f263 := Tryz.func168.trans (congrArg some (by kernel_rfl))
  f264 := Tryz.func169.trans (congrArg some (by kernel_rfl))
  f276 := Tryz.func172.trans (congrArg some (by kernel_rfl))
  f277 := Tryz.func181.trans (congrArg some (by kernel_rfl))
  t0 := Tryz.underlying0
  a0 := Tryz.isAgg0
  z0 := Tryz.sizeOf0
  v0 := Tryz.zeroValue0
  t3 := Tryz.underlying3
  a3 := Tryz.isAgg3
  z3 := Tryz.sizeOf3
  v3 := Tryz.zeroValue3
  t4 := Tryz.underlying4
  a4 := Tryz.isAgg4
  z4 := Tryz.sizeOf4
  v4 := Tryz.zeroValue4
  t5 := Tryz.underlying5
  a5 := Tryz.isAgg5
  z5 := Tryz.sizeOf5
  v5 := Tryz.zeroValue5
  t9 := Tryz.underlying9
  a9 := Tryz.isAgg9
  z9 := Tryz.sizeOf9
  v9 := Tryz.zeroValue9
  t20 := Tryz.underlying20
  a20 := Tryz.isAgg20
  z20 := Tryz.sizeOf20
  v20 := Tryz.zeroValue20
  t37 := Tryz.underlying74
  a37 := Tryz.isAgg74
  z37 := Tryz.sizeOf74
  v37 := Tryz.zeroValue74
  t46 := Tryz.underlying135
  a46 := Tryz.isAgg135
  z46 := Tryz.sizeOf135
  v46 := Tryz.zeroValue135
  t51 := Tryz.underlying188
  a51 := Tryz.isAgg188
  z51 := Tryz.sizeOf188
  v51 := Tryz.zeroValue188
  t53 := Tryz.underlying191
  a53 := Tryz.isAgg191
  z53 := Tryz.sizeOf191
  v53 := Tryz.zeroValue191
  t70 := Tryz.underlying153
  a70 := Tryz.isAgg153
  z70 := Tryz.sizeOf153
  v70 := Tryz.zeroValue153
  t72 := Tryz.underlying155
  a72 := Tryz.isAgg155
  z72 := Tryz.sizeOf155
  v72 := Tryz.zeroValue155
  t75 := Tryz.underlying157
  a75 := Tryz.isAgg157
  z75 := Tryz.sizeOf157
  v75 := Tryz.zeroValue157
  t76 := Tryz.underlying158
  a76 := Tryz.isAgg158
  z76 := Tryz.sizeOf158
  v76 := Tryz.zeroValue158
  t109 := Tryz.underlying174
  a109 := Tryz.isAgg174
  z109 := Tryz.sizeOf174
  v109 := Tryz.zeroValue174
  t127 := Tryz.underlying173
  a127 := Tryz.isAgg173
  z127 := Tryz.sizeOf173
  v127 := Tryz.zeroValue173
  t146 := Tryz.underlying189
  a146 := Tryz.isAgg189
  z146 := Tryz.sizeOf189
  v146 := Tryz.zeroValue189
  t148 := Tryz.underlying192
  a148 := Tryz.isAgg192
  z148 := Tryz.sizeOf192
  v148 := Tryz.zeroValue192
  t164 := Tryz.underlying194
  a164 := Tryz.isAgg194
  z164 := Tryz.sizeOf194
  v164 := Tryz.zeroValue194 }
end Go.Proofs

namespace Go.Proofs.YteboacjniokfpaaGreatDoor
open Go.RowKit Go Go.Maps SM

theorem extra : Builder.Extra Tryz.prog Tryz.lays105_ren := {
  sizeBuilder := by kernel_rfl
  liesBuilder := by kernel_rfl
  t5 := Tryz.lays105.t5
  a5 := Tryz.lays105.a5
  z5 := Tryz.lays105.z5
  v5 := Tryz.lays105.v5
  infoByte := by kernel_rfl
  cellsByte := by kernel_rfl
  sizeByte := by kernel_rfl
  neB5 := by decide }
def zeros (k : Nat) : ByteArray := ⟨(List.replicate k (0 : UInt8)).toArray⟩
theorem size_zeros (k : Nat) : (zeros k).size = k := by simp [zeros, ByteArray.size]
theorem repeat_one : ∀ k : Nat, Lib.repeatL [(0 : UInt8)] k = List.replicate k 0
  | 0 => rfl
  | k + 1 => by
    have h := repeat_one k
    simp only [Lib.repeatL, List.replicate_succ] at h ⊢
    rw [h]; rfl
theorem repeat_any (k : Nat) (hk : k ≤ 256) (w : World) :
    Calls Tryz.prog 134 #[.string ⟨#[0]⟩, .int .i64 k] w fun e w' => e = .returned (.string (zeros k)) ∧ Below w.heap.size w w' := by
  have h := Any.strings_Repeat Tryz.lays105 extra ⟨#[0]⟩ k w (by omega) (by show 1 * k ≤ _; omega)
  have e : (⟨(Lib.repeatL (⟨#[0]⟩ : ByteArray).data.toList k).toArray⟩ : ByteArray) = zeros k := by
    show (⟨(Lib.repeatL [(0 : UInt8)] k).toArray⟩ : ByteArray) = _
    rw [repeat_one]; rfl
  rw [e] at h
  exact h

/-! ### a text's bytes, noughts behind them -/
def fillB (s : ByteArray) : ByteArray := s ++ zeros (64 - s.size)
theorem fill_any (s : ByteArray) (hs : s.size ≤ 64) (w : World) :
    Calls Tryz.prog 116 #[.string s] w fun e w' => e = .returned (.string (fillB s)) ∧ Below w.heap.size w w' := by
  have C := fun w => repeat_any (64 - s.size) (by omega) w
  rw [show ((64 - s.size : Nat) : Int) = 64 - (s.size : Int) by omega] at C
  have HF := Lib.hid (show fillB s = s ++ zeros (64 - s.size) from rfl)
  have hz : (zeros (64 - s.size)).size ≤ 64 := by rw [size_zeros]; omega
  generalize zeros (64 - s.size) = Z at C HF hz
  have nsum : ¬ 9223372036854775807 < s.size + Z.size := by omega
  go_enter Tryz.func116, Tryz.ntmps116
  go_wp2_with fail
  refine (C _).mono ?_
  rintro e w' ⟨rfl, hB⟩
  go_wp2
  go_ret
  exact ⟨by rw [HF.out]; rfl, hB⟩

/-! ### a number in so many bytes -/
def u8c (l : List UInt8) : List Value := l.map fun b => Value.int .u8 b.toNat
theorem u8c_snoc (l : List UInt8) (x : UInt8) : u8c (l ++ [x]) = u8c l ++ [.int .u8 x.toNat] := by simp [u8c]
def bsL (l : List UInt8) : ByteArray := ⟨l.toArray⟩
theorem size_bsL (l : List UInt8) : (bsL l).size = l.length := by simp [bsL, ByteArray.size]
theorem bsL_append (a b : List UInt8) : bsL (a ++ b) = bsL a ++ bsL b := by
  apply ByteArray.ext
  simp [bsL, ByteArray.data_append]
theorem bsL_data (x : ByteArray) : bsL x.data.toList = x := ByteArray.ext (by simp [bsL])
theorem data_bsL (l : List UInt8) : (bsL l).data.toList = l := by simp [bsL]
theorem row_cells' {W : World} {base : Nat} {e : TypeId} {v : Value} {n : Nat} {xs : List Value} (h : W.ownsRow base e 1 v n xs) (hv : v ≠ .slice none 0 0) :
    ∃ g cap, v = .slice (some ⟨g, 0, none⟩) n cap ∧ base ≤ g ∧ g < W.heap.size ∧ n ≤ cap ∧ cap ≤ maxLen ∧ ∀ (i : Nat) u, xs[i]? = some u → W.cell? ⟨g, i, none⟩ = some u := by
  rcases h.2 with ⟨e, _⟩ | ⟨g, cap, cur, h1, h2, h3, h4, h5, h6, h7⟩
  · exact absurd e hv
  · refine ⟨g, cap, h1, h2, (Array.getElem?_eq_some_iff.1 h3).1, h4, h5, fun i u hu => ?_⟩
    have hi : i < n := by
      have := (List.getElem?_eq_some_iff.1 hu).1
      have := h.1
      omega
    rw [← h7, List.getElem?_take_of_lt (by omega)] at hu
    simp only [World.cell?, h3]
    simpa using hu
/-- bytes of a row of the call's own, as a text -/
theorem conv_row (W : World) (base : Nat) (v : Value) (l : List UInt8) (h : W.ownsRow base 5 1 v l.length (u8c l)) :
    (convert 74 9 v).run Tryz.prog W = .ok (.string (bsL l)) W := by
  by_cases hv : v = .slice none 0 0
  · have hl : l.length = 0 := by
      rcases h.2 with ⟨_, e⟩ | ⟨g, cap, cur, h1, _⟩
      · exact e
      · rw [hv] at h1; cases h1
    obtain rfl : l = [] := List.eq_nil_of_length_eq_zero hl
    subst hv
    exact run_convert_bytes_nil W 74 5 Tryz.underlying74 Tryz.underlying5 0 0 9 Tryz.underlying9
  · obtain ⟨g, cap, rfl, _, _, _, _, hc⟩ := row_cells' h hv
    exact run_convert_bytes_back W 74 9 5 ⟨g, 0, none⟩ cap l Tryz.underlying74 Tryz.underlying5 Tryz.underlying9 (fun j hj => by
      rw [Addr.add_lit, Nat.zero_add, hc j (.int .u8 (l[j].toNat : Nat)) (by simp [u8c, hj])])
theorem byte_wrap (n : Nat) : IntKind.u8.wrap (n : Int) = ((UInt8.ofNat (n % 256)).toNat : Int) := by
  show (n : Int) % 256 = _
  simp
theorem take_leN : ∀ (k j n : Nat), j ≤ k → (leN n k).take j = leN n j
  | _, 0, _, _ => by simp [leN]
  | k + 1, j + 1, n, h => by rw [leN, List.take_succ_cons, take_leN k j _ (by omega), leN]
set_option maxRecDepth 100000 in
set_option maxHeartbeats 1000000 in
theorem number_any (n k : Nat) (hn : n ≤ 9223372036854775807) (hk : k ≤ 8) (w : World) :
    Calls Tryz.prog 53 #[.int .i64 n, .int .i64 k] w fun e w' => e = .returned (.string (bsL (leN n k))) ∧ Below w.heap.size w w' := by
  obtain ⟨i0, hi, hz0, hz1, hz2⟩ := info_parts info5e
  have hk8 : (k : Int) ≤ 8 := by omega
  go_enter Tryz.func53, Tryz.ntmps53
  go_wp2
  go_loopw [5, 0, 7] (fun v m i wr => ∃ j : Nat, j ≤ k ∧ i = .int .i64 j ∧ m = .int .i64 ((n / 256 ^ j : Nat) : Int) ∧ wr.ownsRow w.heap.size 5 1 v (leN n j).length (u8c (leN n j)) ∧ Below w.heap.size w wr) (fun _ _ i _ => k - (intOf i).toNat)
  case atStart => exact ⟨0, Nat.zero_le _, rfl, by simp, World.ownsRow_nil _ _ _ _, Below.refl _ _⟩
  case round =>
    obtain ⟨j, hj, rfl, rfl, hrow, hB⟩ := hrel
    by_cases hlt : j < k
    · have hji : (j : Int) < (k : Int) := by omega
      have HS := Lib.hid (show leN n (j + 1) = leN n j ++ [UInt8.ofNat (n / 256 ^ j % 256)] from leN_snoc j n)
      have HP := Lib.hid (show n / 256 ^ (j + 1) = n / 256 ^ j / 256 by rw [Nat.div_div_eq_div_mul, Nat.pow_succ])
      have hle : n / 256 ^ j ≤ 9223372036854775807 := Nat.le_trans (Nat.div_le_self _ _) hn
      have hbw := byte_wrap (n / 256 ^ j)
      have hlen := length_leN n j
      generalize n / 256 ^ j = q at *
      generalize UInt8.ofNat (q % 256) = x at *
      generalize leN n j = L at *
      have hszW : w.heap.size ≤ wr.heap.size := hB.size
      go_wp2_with (at_builtin; refine wpList_append_own _ rfl _ _ 74 rfl w.heap.size 5 i0 (.int .u8 0) 1 1 Tryz.underlying74 hi hz0 hz1 hz2 rfl (by decide) _ _ _ rfl (hrow.alloc _) ⟨wr.heap.size, 0, none⟩ 1 1 [.int .u8 x.toNat] rfl rfl (cell_one_new _ _ _) (by simp [Value.oneCell']) (by unfold maxLen; omega) (by omega) (by simp; omega) ?_; intro v' w1 hown' hgrow _)
      have hB1 : Below w.heap.size w w1 := (hB.alloc hszW _).grown hgrow (by simp; omega) (fun j ej => (hrow.lt j ej).1)
      go_roundw
      case rel => exact ⟨j + 1, by omega, by go_num, by rw [HP.out]; go_num, by rw [HS.out, List.length_append, u8c_snoc]; exact hown', hB1⟩
      case measure => simp [intOf]; omega
    · obtain rfl : j = k := by omega
      have hcv := conv_row wr w.heap.size _ _ hrow
      have HB := Lib.hid hB
      clear hlt hrow hB hj hk8 hk
      go_wp2
      go_ret
      exact ⟨rfl, HB.out⟩

/-! ### sector 0 -/
theorem bsL_head (gen used : Nat) : fillB ((⟨#[78, 86]⟩ : ByteArray) ++ bsL (leN gen 6) ++ bsL (leN used 4)) = headB gen used := by
  apply ByteArray.ext
  apply Array.toList_inj.1
  simp [fillB, headB, headL, ByteArray.data_append, bsL, zeros, length_leN, ByteArray.size]
theorem first_any (gen used : Nat) (hg : gen ≤ 9223372036854775807) (hu : used ≤ 9223372036854775807) (w : World) :
    Calls Tryz.prog 120 #[.int .i64 gen, .int .i64 used] w fun e w' => e = .returned (.string (headB gen used)) ∧ Below w.heap.size w w' := by
  have C1 := fun w => number_any gen 6 hg (by omega) w
  have C2 := fun w => number_any used 4 hu (by omega) w
  have HE := Lib.hid (bsL_head gen used)
  have hs1 : (bsL (leN gen 6)).size = 6 := by rw [size_bsL, length_leN]
  have hs2 : (bsL (leN used 4)).size = 4 := by rw [size_bsL, length_leN]
  have C3 := fun w => fill_any ((⟨#[78, 86]⟩ : ByteArray) ++ bsL (leN gen 6) ++ bsL (leN used 4)) (by rw [ByteArray.size_append, ByteArray.size_append, hs1, hs2]; decide) w
  generalize bsL (leN gen 6) = X at *
  generalize bsL (leN used 4) = Y at *
  go_enter Tryz.func120, Tryz.ntmps120
  go_wp2_with fail
  refine (C1 _).mono ?_
  rintro e w1 ⟨rfl, hB1⟩
  go_wp2_with fail
  refine (C2 _).mono ?_
  rintro e w2 ⟨rfl, hB2⟩
  go_wp2_with fail
  refine (C3 _).mono ?_
  rintro e w3 ⟨rfl, hB3⟩
  have HB := Lib.hid ((hB1.trans (hB2.mono hB1.size)).trans (hB3.mono (hB1.trans (hB2.mono hB1.size)).size))
  clear hB1 hB2 hB3
  go_wp2
  go_ret
  exact ⟨by rw [HE.out]; rfl, HB.out⟩

/-! ### how many sectors a half has -/
section
variable {b g m : Nat} {s : DS} {w w' : World}
def halfN (s : DS) : Nat := (s.stay.length - 1) / 2
theorem half_any (h : DiskAt b g m s w) :
    Calls Tryz.prog 131 #[.pointer (some ⟨b, 0, none⟩)] w fun e w' => e = .returned (.int .i64 (halfN s)) ∧ w = w' := by
  have C := sectors_any h
  have h1 := h.1.pos
  have h2 := h.1.le
  unfold halfN
  generalize s.stay.length = N at *
  obtain ⟨M, rfl⟩ : ∃ M, N = M + 1 := ⟨N - 1, by omega⟩
  have e1 : ((M + 1 : Nat) : Int) - 1 = (M : Int) := by omega
  have e2 : ((M + 1 - 1) / 2 : Nat) = M / 2 := by omega
  rw [e2]
  have HE := Lib.hid (show (M : Int).tdiv 2 = ((M / 2 : Nat) : Int) by rw [Int.tdiv_eq_ediv_of_nonneg (by omega)]; omega)
  clear h
  go_enter Tryz.func131, Tryz.ntmps131
  go_wp2_with fail
  refine C.mono ?_
  rintro e w' ⟨rfl, rfl⟩
  go_wp2
  go_ret
  exact ⟨rfl, rfl⟩
theorem halfSize_any (h : DiskAt b g m s w) :
    Calls Tryz.prog 74 #[.pointer (some ⟨b, 0, none⟩)] w fun e w' => e = .returned (.int .i64 (64 * halfN s : Nat)) ∧ w = w' := by
  have C := half_any h
  have hle : halfN s ≤ 16384 := by have := h.1.le; unfold halfN; omega
  generalize halfN s = N at *
  clear h
  go_enter Tryz.func74, Tryz.ntmps74
  go_wp2_with fail
  refine C.mono ?_
  rintro e w' ⟨rfl, rfl⟩
  go_wp2
  go_ret
  exact ⟨by simp [Nat.mul_comm], rfl⟩
end
end Go.Proofs.YteboacjniokfpaaGreatDoor

namespace Go.Proofs.YteboacjniokfpaaGreatDoor
open Go.RowKit Go Go.Maps SM

/-- what is left of a row of bytes -/
def Rest (v : Value) (L : List UInt8) (w : World) : Prop :=
  ∃ a cap, v = .slice a L.length cap ∧ L.length ≤ cap ∧ cap ≤ maxLen ∧ (L ≠ [] → ∃ g off C f, a = some ⟨g, off, none⟩ ∧ w.heap[g]? = some (.cells C 5 f) ∧ ∀ i (h : i < L.length), w.cell? ⟨g, off + i, none⟩ = some (.int .u8 L[i].toNat))
section
variable {v : Value} {L : List UInt8} {w w' : World}
theorem Rest.same (h : Rest v L w) (hb : ∀ (g : Nat) (C : Array Value) (f : Nat × Nat), w.heap[g]? = some (.cells C 5 f) → w'.heap[g]? = w.heap[g]?) : Rest v L w' := by
  obtain ⟨a, cap, h1, h2, h3, h4⟩ := h
  refine ⟨a, cap, h1, h2, h3, fun hne => ?_⟩
  obtain ⟨g, off, C, f, e, h5, h6⟩ := h4 hne
  exact ⟨g, off, C, f, e, (hb g C f h5).trans h5, fun i hi => (World.cell?_of_block (w := w) (hb g C f h5)).trans (h6 i hi)⟩
theorem Rest.below (h : Rest v L w) (hB : Below w.heap.size w w') : Rest v L w' :=
  h.same fun g _ _ hg => hB.block g (lt_of_heap hg)
theorem Rest.len (h : Rest v L w) : L.length ≤ maxLen := by
  obtain ⟨a, cap, _, h2, h3, _⟩ := h
  omega
end

theorem Rest.conv {v : Value} {L : List UInt8} {w : World} (h : Rest v L w) : (convert 74 9 v).run Tryz.prog w = .ok (.string (bsL L)) w := by
  obtain ⟨a, cap, rfl, h2, h3, h4⟩ := h
  by_cases hl : L = []
  · subst hl
    cases a with
    | none => exact run_convert_bytes_nil w 74 5 Tryz.underlying74 Tryz.underlying5 _ _ 9 Tryz.underlying9
    | some a => exact run_convert_bytes_back w 74 9 5 a cap [] Tryz.underlying74 Tryz.underlying5 Tryz.underlying9 (fun j hj => by simp at hj)
  · obtain ⟨g, off, _, _, rfl, hg, hc⟩ := h4 hl
    exact run_convert_bytes_back w 74 9 5 ⟨g, off, none⟩ cap L Tryz.underlying74 Tryz.underlying5 Tryz.underlying9 (fun j hj => by
      rw [Addr.add_lit, hc j hj])
/-- the box's block -/
def boxO (v : Value) : Obj := .cells #[v] 74 (0, 0)

theorem or64 {a b k : Nat} (ha : a < 2 ^ k) (hs : a + b * 2 ^ k < 9223372036854775808) : bits .or .i64 (a : Int) ((b * 2 ^ k : Nat) : Int) = ((a + b * 2 ^ k : Nat) : Int) := by
  have e : (BitVec.ofInt 64 (a : Int) ||| BitVec.ofInt 64 ((b * 2 ^ k : Nat) : Int)).toNat = a + b * 2 ^ k := by
    rw [BitVec.toNat_or, BitVec.toNat_ofInt, BitVec.toNat_ofInt]
    have h1 : ((a : Int) % ((2 ^ 64 : Nat) : Int)).toNat = a := by omega
    have h2 : (((b * 2 ^ k : Nat) : Int) % ((2 ^ 64 : Nat) : Int)).toNat = b * 2 ^ k := by omega
    rw [h1, h2, Nat.or_comm, Nat.mul_comm b, ← Nat.two_pow_add_eq_or_of_lt ha]
    omega
  show IntKind.i64.wrap ((BitVec.ofInt 64 (a : Int) ||| BitVec.ofInt 64 ((b * 2 ^ k : Nat) : Int)).toNat : Int) = _
  rw [e]
  exact wrapI _ (by omega) (by omega)
theorem valN_snoc : ∀ (l : List UInt8) (x : UInt8), valN (l ++ [x]) = valN l + x.toNat * 2 ^ (8 * l.length)
  | [], x => by simp [valN]
  | b :: r, x => by
    rw [List.cons_append, valN, valN, valN_snoc r x, List.length_cons, Nat.mul_add 8, Nat.pow_add, Nat.mul_add, show 2 ^ (8 * 1) = 256 by decide]
    have : 256 * (x.toNat * 2 ^ (8 * r.length)) = x.toNat * (2 ^ (8 * r.length) * 256) := by rw [Nat.mul_left_comm, Nat.mul_comm (2 ^ _)]
    omega
theorem valN_lt2 (l : List UInt8) : valN l < 2 ^ (8 * l.length) := by
  have := valN_lt l
  rwa [show 256 = 2 ^ 8 by decide, ← Nat.pow_mul] at this

theorem wrap_nat {n : Nat} (h : n < 9223372036854775808) : wrap64 (n : Int) = (n : Int) := by unfold wrap64; omega

set_option maxRecDepth 100000 in
set_option maxHeartbeats 1000000 in
theorem number_of (x : ByteArray) (hL : x.size ≤ 7) (w : World) :
    Calls Tryz.prog 130 #[.string x] w fun e w' => e = .returned (.int .i64 (valN x.data.toList)) ∧ w = w' := by
  have hl7 : (x.size : Int) ≤ 7 := by omega
  have hlx : x.data.toList.length = x.size := len_of x
  go_enter Tryz.func130, Tryz.ntmps130
  go_wp2
  go_loop [3, 7] (fun n i => ∃ j : Nat, j ≤ x.size ∧ i = .int .i64 j ∧ n = .int .i64 (valN (x.data.toList.take j))) (fun _ i => x.size - (intOf i).toNat)
  case atStart => exact ⟨0, Nat.zero_le _, rfl, rfl⟩
  case round =>
    obtain ⟨j, hj, rfl, rfl⟩ := hrel
    by_cases hlt : j < x.size
    · have hji : (j : Int) < (x.size : Int) := by omega
      have hlt' : j < x.data.toList.length := by omega
      have hlen : (x.data.toList.take j).length = j := by rw [List.length_take]; omega
      have hv := valN_snoc (x.data.toList.take j) x.data.toList[j]
      rw [hlen, ← List.take_succ_eq_append_getElem hlt'] at hv
      have hlt1 := valN_lt2 (x.data.toList.take j)
      rw [hlen] at hlt1
      have hlt2 := valN_lt2 (x.data.toList.take (j + 1))
      rw [show (x.data.toList.take (j + 1)).length = j + 1 by rw [List.length_take]; omega] at hlt2
      have hxj : x.data.toList[j] = x[j] := rfl
      rw [hxj] at hv
      have HV := Lib.hid hv
      have h56 : 2 ^ (8 * (j + 1)) ≤ 2 ^ 56 := Nat.pow_le_pow_right (by decide) (by omega)
      have hor := or64 (b := x[j].toNat) hlt1 (by rw [← hv]; omega)
      clear hlen hv hlt1 hlx hxj
      generalize hq : valN (x.data.toList.take (j + 1)) = q at hlt2 HV hor
      have HQ := Lib.hid hq.symm
      clear hq
      generalize valN (x.data.toList.take j) = p at *
      have hb8 : x[j].toNat < 256 := x[j].toNat_lt
      go_wp2
      go_roundw
      case rel =>
        refine ⟨j + 1, by omega, by go_num, ?_⟩
        generalize x[j].toNat = y at *
        have hb : y * 2 ^ (8 * j) ≤ q := by rw [HV.out]; omega
        rw [show (y : Int) * 2 ^ (8 * j) = ((y * 2 ^ (8 * j) : Nat) : Int) by rw [Int.natCast_mul, Int.natCast_pow]; rfl, wrap_nat (by omega), hor, ← HV.out, HQ.out]
      case measure => simp [intOf]; omega
    · obtain rfl : j = x.size := by omega
      rw [← hlx, List.take_length]
      go_wp2
      go_ret
      exact ⟨rfl, rfl⟩

/-! ### the closure -/
theorem sliced_rest {a : Option Addr} {L : List UInt8} {cap k : Nat} {w : World} (hk : k ≤ L.length) (h2 : L.length ≤ cap) (h3 : cap ≤ maxLen)
    (h4 : L ≠ [] → ∃ g off C f, a = some ⟨g, off, none⟩ ∧ w.heap[g]? = some (.cells C 5 f) ∧ ∀ i (h : i < L.length), w.cell? ⟨g, off + i, none⟩ = some (.int .u8 L[i].toNat)) :
    Rest (.slice a k cap) (L.take k) w ∧ Rest (.slice (if cap = k then a else a.map (·.add k)) (L.length - k) (cap - k)) (L.drop k) w := by
  refine ⟨⟨a, cap, by rw [List.length_take, Nat.min_eq_left hk], by rw [List.length_take]; omega, h3, fun hne => ?_⟩, ⟨_, cap - k, by rw [List.length_drop], by rw [List.length_drop]; omega, by omega, fun hne => ?_⟩⟩
  · obtain ⟨g, off, C, f, e, hg, hc⟩ := h4 (by rintro rfl; exact hne (by simp))
    exact ⟨g, off, C, f, e, hg, fun i hi => by
      rw [List.length_take] at hi
      rw [List.getElem_take]
      exact hc i (by omega)⟩
  · obtain ⟨g, off, C, f, e, hg, hc⟩ := h4 (by rintro rfl; exact hne (by simp))
    have hlt : k < L.length := by
      rcases Nat.lt_or_ge k L.length with h | h
      · exact h
      · exact absurd (List.drop_of_length_le h) hne
    refine ⟨g, off + k, C, f, ?_, hg, fun i hi => ?_⟩
    · rw [if_neg (by omega), e, Option.map_some, Addr.add_lit]
    · rw [List.length_drop] at hi
      rw [List.getElem_drop, ← hc (k + i) (by omega), Nat.add_assoc]

theorem clampMin (n N : Nat) : ∃ k : Nat, min (n : Int) (N : Int) = (k : Int) ∧ (if (N : Int) < (n : Int) then (N : Int) else (n : Int)) = (k : Int) ∧ (if (n : Int) < (N : Int) then (n : Int) else (N : Int)) = (k : Int) ∧ k = min n N :=
  ⟨min n N, by omega, by split <;> omega, by split <;> omega, rfl⟩
set_option maxRecDepth 100000 in
theorem take_any {x n : Nat} {v : Value} {L : List UInt8} {w : World} (hx : w.heap[x]? = some (boxO v)) (h : Rest v L w) (_hn : n ≤ 4611686018427387904) :
    Calls Tryz.prog 153 #[.int .i64 n, .pointer (some ⟨x, 0, none⟩)] w fun e w' => ∃ u v', e = .returned u ∧ Rest u (L.take n) w' ∧ Rest v' (L.drop n) w' ∧ w'.heap[x]? = some (boxO v') ∧ Stir (· = x) w w' := by
  obtain ⟨a, cap, rfl, h2, h3, h4⟩ := h
  obtain ⟨k, e1, e2, e3, hk⟩ := clampMin n L.length
  have hkl : k ≤ L.length := by omega
  have hsl := sliced_rest hkl h2 h3 h4
  have htk : L.take n = L.take k := by rw [hk, List.take_eq_take_min]
  have hdr : L.drop n = L.drop k := by
    rcases Nat.le_total n L.length with h | h
    · rw [show k = n by omega]
    · rw [show k = L.length by omega, List.drop_of_length_le h, List.drop_of_length_le (Nat.le_refl _)]
  rw [htk, hdr]
  have c0 : w.cell? ⟨x, 0, none⟩ = some (.slice a L.length cap) := by simp [World.cell?, hx, boxO]
  have f0 : w.frozen? ⟨x, 0, none⟩ = false := by simp [World.frozen?, hx, boxO]
  obtain ⟨a', ha'⟩ : ∃ a', (if cap = k then a else a.map (·.add k)) = a' := ⟨_, rfl⟩
  rw [ha'] at hsl
  have HA := Lib.hid ha'
  obtain ⟨w1, hw1⟩ : ∃ w1, w.setCell ⟨x, 0, none⟩ (.slice a' (L.length - k) (cap - k)) = w1 := ⟨_, rfl⟩
  have hx1 : w1.heap[x]? = some (boxO (.slice a' (L.length - k) (cap - k))) := by
    rw [← hw1, heap_set hx]; simp [boxO]
  have hst : Stir (· = x) w w1 := by rw [← hw1]; exact (Stir.refl (· = x) w).set (.inl rfl) _
  have hkeep : ∀ v L, Rest v L w → Rest v L w1 := fun v L h => h.same fun g C f hg => hst.block g (lt_of_heap hg) (by
    rintro rfl
    rw [hx] at hg
    simp [boxO] at hg)
  have H1 := Lib.hid (hkeep _ _ hsl.1)
  have H2 := Lib.hid (hkeep _ _ hsl.2)
  have HW := Lib.hid hw1
  have HX := Lib.hid hx1
  have HS := Lib.hid hst
  clear hsl h4 htk hdr ha' hw1 hx1 hst hkeep hk
  have hN : L.length ≤ cap := h2
  generalize L.length = N at *
  have hki : (k : Int) ≤ (N : Int) := by omega
  have hcap : (N : Int) ≤ (cap : Int) := by omega
  go_enter Tryz.func153, Tryz.ntmps153
  go_wp2
  all_goals (
    have e := fun (v : Value) (hv : v = .slice a' (N - k) (cap - k)) => (show w.setCell ⟨x, 0, none⟩ v = w1 by rw [hv]; exact HW.out)
    go_ret
    rw [e _ (by rw [← HA.out]; simp [h])]
    exact ⟨_, rfl, (by first | exact H1.out | (have h1 := H1.out; rw [h] at h1; exact h1)), _, H2.out, HX.out, HS.out⟩)
theorem taker_any {v : Value} {L : List UInt8} {w : World} (h : Rest v L w) :
    Calls Tryz.prog 129 #[v] w fun e w' => e = .returned (.func (.func 153) #[] #[.pointer (some ⟨w.heap.size, 0, none⟩)]) ∧ w'.heap[w.heap.size]? = some (boxO v) ∧ Rest v L w' ∧ Below w.heap.size w w' := by
  have hmf : ∀ (fn : Fn) (first cap : Array Value) (w : World), (Instr.makeFunc fn first cap).run Tryz.prog w = .ok (.func fn first cap) w := fun _ _ _ _ => rfl
  have hB : Below w.heap.size w (w.alloc (boxO v)) := (Below.refl _ w).alloc (Nat.le_refl _) _
  obtain ⟨a, cap, rfl, _⟩ := id h
  have HX := Lib.hid (show (w.alloc (boxO (.slice a L.length cap))).heap[w.heap.size]? = some (boxO (.slice a L.length cap)) from heap_alloc_new _ _)
  have HR := Lib.hid (h.below hB)
  have HB := Lib.hid hB
  clear h hB
  go_enter Tryz.func129, Tryz.ntmps129
  go_wp2
  go_ret
  exact ⟨rfl, HX.out, HR.out, HB.out⟩

/-! ### what sector 0 says -/
def saidG (x : ByteArray) : Nat := valN ((x.data.toList.drop 2).take 6)
def saidU (x : ByteArray) : Nat := valN ((x.data.toList.drop 8).take 4)
def saidOk (x : ByteArray) : Bool := decide (saidG x ≤ 1099511627776) && (x.toList == (headB (saidG x) (saidU x)).toList)
theorem saidOk_is (x : ByteArray) : saidOk x = true ↔ saidG x ≤ 1099511627776 ∧ x = headB (saidG x) (saidU x) := by
  rw [saidOk, Bool.and_eq_true, decide_eq_true_eq, beq_iff_eq, ByteArray.toList_eq, ByteArray.toList_eq]
  exact and_congr_right fun _ => ⟨fun e => ByteArray.ext (Array.toList_inj.1 e), fun e => congrArg (fun b : ByteArray => b.data.toList) e⟩
theorem leN_le (l : List UInt8) (k : Nat) (h : l.length ≤ k) : valN l < 256 ^ k := Nat.lt_of_lt_of_le (valN_lt l) (Nat.pow_le_pow_right (by decide) h)
theorem saidG_le (x : ByteArray) : saidG x ≤ 281474976710655 := by
  have := leN_le ((x.data.toList.drop 2).take 6) 6 (by simp; omega)
  unfold saidG; omega
theorem saidU_le (x : ByteArray) : saidU x ≤ 4294967295 := by
  have := leN_le ((x.data.toList.drop 8).take 4) 4 (by simp; omega)
  unfold saidU; omega

set_option maxRecDepth 100000 in
set_option maxHeartbeats 2000000 in
theorem said_any (x : ByteArray) (hx : x.size = 64) (w : World) :
    Calls Tryz.prog 73 #[.string x] w fun e w' => e = .returned (.tuple #[.int .i64 (saidG x), .int .i64 (saidU x), .bool (saidOk x)]) ∧ Below w.heap.size w w' := by
  have hcv := Lib.run_convert_string_bytes (P := Tryz.prog) w 9 74 5 x Tryz.underlying9 Tryz.underlying74 Tryz.underlying5
  obtain ⟨hB0, hs0⟩ := below_bytesWorld w 5 x
  have hlen : x.data.toList.length = x.size := len_of x
  have hr0 : Rest (.slice (some ⟨w.heap.size, 0, none⟩) x.size (grownCap w x.size 0 5)) x.data.toList (Lib.bytesWorld w 5 x) := by
    refine ⟨_, _, by rw [hlen], by rw [hlen]; exact grownCap_ge w x.size 0 _, grownCap_le_maxLen _ _ _ _ (by unfold maxLen; omega), fun _ => ⟨w.heap.size, 0, _, _, rfl, Lib.bytesWorld_at_new w _ x, fun i hi => ?_⟩⟩
    rw [Nat.zero_add, Lib.bytesWorld_cell w _ x i (by omega), List.getD_eq_getElem?_getD, List.getElem?_eq_getElem hi, Option.getD_some]
  generalize Lib.bytesWorld w 5 x = w0 at *
  generalize grownCap w x.size 0 5 = cap at *
  have hG := saidG_le x
  have hU := saidU_le x
  have C1 := taker_any hr0
  have hd8 : ((x.data.toList.drop 2).drop 6) = x.data.toList.drop 8 := by rw [List.drop_drop]
  have CF := fun w => first_any (saidG x) (saidU x) (by omega) (by omega) w
  have HB0 := Lib.hid hB0
  rw [hx] at hcv C1
  clear hx hlen hB0 hs0 hr0
  obtain ⟨G, hg⟩ : ∃ G, saidG x = G := ⟨_, rfl⟩
  obtain ⟨U, hu⟩ : ∃ U, saidU x = U := ⟨_, rfl⟩
  obtain ⟨O, ho⟩ : ∃ O, saidOk x = O := ⟨_, rfl⟩
  rw [ho, hg, hu]
  rw [hg, hu] at CF
  rw [hg] at hG
  have HO := Lib.hid (show O = (decide (G ≤ 1099511627776) && (x.toList == (headB G U).toList)) by rw [← ho, saidOk, hg, hu])
  have HG := Lib.hid hg
  have HU := Lib.hid hu
  clear hg hu ho hU
  generalize headB G U = X at *
  go_enter Tryz.func73, Tryz.ntmps73
  go_wp2_with fail
  refine C1.mono ?_
  rintro e w1 ⟨rfl, hx1, hr1, hB1⟩
  have HB1 := Lib.hid (HB0.out.trans (hB1.mono HB0.out.size))
  have hq : w.heap.size ≤ w0.heap.size := HB0.out.size
  have C2 := take_any (n := 2) hx1 hr1 (by omega)
  go_wp2_with fail
  refine C2.mono ?_
  rintro e w2 ⟨u2, v2, rfl, _, hr2, hx2, hs2⟩
  have HB2 := Lib.hid (HB1.out.trans (hs2.below (B := w.heap.size) (fun k e => by subst e; exact hq) HB1.out.size))
  have C3 := take_any (n := 6) hx2 hr2 (by omega)
  rw [hd8] at C3
  clear hx1 hr1 hB1 hs2 hx2 hr2 C1 C2
  go_wp2_with fail
  refine C3.mono ?_
  rintro e w3 ⟨u3, v3, rfl, hu3, hr3, hx3, hs3⟩
  have HB3 := Lib.hid (HB2.out.trans (hs3.below (B := w.heap.size) (fun k e => by subst e; exact hq) HB2.out.size))
  have hcv4 := hu3.conv
  have C4 := fun w => number_of (bsL ((x.data.toList.drop 2).take 6)) (by rw [size_bsL]; simp; omega) w
  rw [data_bsL, show valN ((x.data.toList.drop 2).take 6) = G from HG.out] at C4
  generalize bsL ((x.data.toList.drop 2).take 6) = Xg at hcv4 C4
  have C5 := take_any (n := 4) hx3 hr3 (by omega)
  clear C3 hs3 hu3 hr3 hx3 hd8
  go_wp2_with fail
  refine (C4 _).mono ?_
  rintro e w' ⟨rfl, rfl⟩
  clear hcv4
  go_wp2_with fail
  refine C5.mono ?_
  rintro e w5 ⟨u5, v5, rfl, hu5, _, _, hs5⟩
  have HB5 := Lib.hid (HB3.out.trans (hs5.below (B := w.heap.size) (fun k e => by subst e; exact hq) HB3.out.size))
  have hcv6 := hu5.conv
  have C6 := fun w => number_of (bsL ((x.data.toList.drop 8).take 4)) (by rw [size_bsL]; simp; omega) w
  rw [data_bsL, show valN ((x.data.toList.drop 8).take 4) = U from HU.out] at C6
  generalize bsL ((x.data.toList.drop 8).take 4) = Xu at hcv6 C6
  clear C4 C5 hs5 hu5
  go_wp2_with fail
  refine (C6 _).mono ?_
  rintro e w' ⟨rfl, rfl⟩
  clear C6 hcv6
  by_cases hg : G ≤ 1099511627776
  · have hgi : (G : Int) ≤ 1099511627776 := by omega
    go_wp2_with fail
    refine (CF _).mono ?_
    rintro e w6 ⟨rfl, hB6⟩
    have HB6 := Lib.hid (HB5.out.trans (hB6.mono HB5.out.size))
    clear hB6
    go_wp2
    go_ret3
    exact ⟨by rw [HO.out]; simp [hg], HB6.out⟩
  · have hgi : ¬ (G : Int) ≤ 1099511627776 := by omega
    go_wp2
    go_ret3
    exact ⟨by rw [HO.out]; simp [hg], HB5.out⟩
end Go.Proofs.YteboacjniokfpaaGreatDoor

namespace Go.Proofs.YteboacjniokfpaaGreatDoor
open Go.RowKit Go Go.Maps SM

theorem readRecs_fuel : ∀ (f1 f2 : Nat) (l : List UInt8), l.length < f1 → l.length < f2 → readRecs f1 l = readRecs f2 l
  | 0, _, _, h, _ => by omega
  | _, 0, _, _, h => by omega
  | f1 + 1, f2 + 1, l, h1, h2 => by
    rw [readRecs, readRecs]
    by_cases h0 : l.length = 0
    · rw [if_pos h0, if_pos h0]
    · rw [if_neg h0, if_neg h0, readRecs_fuel f1 f2 (l.drop (2 + valN (l.take 2))) (by rw [List.length_drop]; omega) (by rw [List.length_drop]; omega)]
/-- what bytes are, as records -/
def recsOf (l : List UInt8) : Option (List ByteArray) := readRecs (l.length + 1) l
theorem recsOf_nil : recsOf [] = some [] := rfl
theorem recsOf_bad {l : List UInt8} (h : l.length ≠ 0) (h2 : l.length < 2 ∨ 1300 < valN (l.take 2) ∨ l.length - 2 < valN (l.take 2)) : recsOf l = none := by
  rw [recsOf, readRecs, if_neg h, if_pos h2]
theorem recsOf_more {l : List UInt8} (h : l.length ≠ 0) (h2 : ¬ (l.length < 2 ∨ 1300 < valN (l.take 2) ∨ l.length - 2 < valN (l.take 2))) :
    recsOf l = (recsOf (l.drop (2 + valN (l.take 2)))).map fun r => bsL ((l.drop 2).take (valN (l.take 2))) :: r := by
  rw [recsOf, readRecs, if_neg h, if_neg h2, readRecs_fuel l.length ((l.drop (2 + valN (l.take 2))).length + 1) _ (by rw [List.length_drop]; omega) (by omega)]
  rfl
theorem recsOf_recB {l : List ByteArray} (h : ∀ r ∈ l, r.size ≤ 1300) : recsOf (recB l) = some l := by
  have hb : ∀ l : List ByteArray, l.length ≤ (recB l).length := fun l => by
    induction l with
    | nil => simp
    | cons r l ih => rw [recB_cons, List.length_append, List.length_append, length_leN, List.length_cons]; omega
  exact read_recB l _ (by have := hb l; omega) h
theorem recsOf_is {b : List UInt8} {l : List ByteArray} (h : recsOf b = some l) : recB l = b ∧ ∀ r ∈ l, r.size ≤ 1300 := recB_read _ _ _ h

theorem infoStr' : (Tryz.prog.info? 9).map (fun i => (i.zero, i.size, i.bytes)) = some (some (.string ⟨#[]⟩), 1, 16) := by kernel_rfl
theorem strVals_snoc (l : List ByteArray) (x : ByteArray) : strVals (l ++ [x]) = strVals l ++ [.string x] := by simp [strVals]
theorem Rest.shape {v : Value} {L : List UInt8} {w : World} (h : Rest v L w) : ∃ a n c, v = .slice a n c ∧ n = L.length := by
  obtain ⟨a, c, e, _⟩ := h
  exact ⟨a, _, c, e, rfl⟩
/-- what split answers -/
def SplitV (base : Nat) (b : List UInt8) (v : Value) (W : World) : Prop :=
  match recsOf b with
  | none => v = .tuple #[.slice none 0 0, .bool false]
  | some l => ∃ u, v = .tuple #[u, .bool true] ∧ W.ownsRow base 9 1 u l.length (strVals l)

set_option maxRecDepth 100000 in
set_option maxHeartbeats 4000000 in
theorem split_any {v : Value} {L : List UInt8} {w : World} (h : Rest v L w) (hL : L.length ≤ 1048576) :
    Calls Tryz.prog 76 #[v] w fun e w' => ∃ r, e = .returned r ∧ SplitV w.heap.size L r w' ∧ Below w.heap.size w w' := by
  obtain ⟨i0, hi, hz0, hz1, hz2⟩ := info_parts infoStr'
  obtain ⟨a, cap, rfl, -⟩ := id h
  have C1 := taker_any h
  clear h
  go_enter Tryz.func76, Tryz.ntmps76
  go_wp2_with fail
  refine C1.mono ?_
  rintro e w1 ⟨rfl, hx1, hr1, hB1⟩
  have C2 := take_any (n := 2) hx1 hr1 (by omega)
  go_wp2_with fail
  refine C2.mono ?_
  rintro e w2 ⟨u2, v2, rfl, hu2, hr2, hx2, hs2⟩
  obtain ⟨a2, n2, c2, rfl, -⟩ := hu2.shape
  have HB2 := Lib.hid (hB1.trans (hs2.below (B := w.heap.size) (fun k e => by omega) hB1.size))
  clear hx1 hr1 hB1 C1 C2 hs2
  go_wp2
  go_loopg [2, 5] L.length (fun g rv lv wr => ∃ (acc : List ByteArray) (R : List UInt8) (v' : Value), g = R.length ∧ Hid (recsOf L = (recsOf R).map (acc ++ ·)) ∧ acc.length + R.length ≤ L.length ∧ Rest lv (R.take 2) wr ∧ Rest v' (R.drop 2) wr ∧ wr.heap[w.heap.size]? = some (boxO v') ∧ wr.ownsRow w.heap.size 9 1 rv acc.length (strVals acc) ∧ Below w.heap.size w wr)
  case atStart => exact ⟨[], L, v2, rfl, Lib.hid (by cases recsOf L <;> simp), by simp, hu2, hr2, hx2, World.ownsRow_nil _ _ _ _, HB2.out⟩
  case round =>
    clear hu2 hr2 hx2 HB2
    obtain ⟨acc, R, v', rfl, HQ, hsz, hu, hr, hx, hrow, hB⟩ := hrel
    obtain ⟨a5, n5, c5, rfl, hn5⟩ := hu.shape
    obtain ⟨ar, cr, rfl⟩ := row_shape hrow
    have hn5' : n5 = min 2 R.length := by rw [hn5, List.length_take]
    clear hn5
    have HB := Lib.hid hB
    by_cases h0 : R.length = 0
    · have e0 : n5 = 0 := by omega
      obtain rfl : R = [] := List.eq_nil_of_length_eq_zero h0
      have HR := Lib.hid (show recsOf L = some acc by rw [HQ.out, recsOf_nil]; simp)
      have HO := Lib.hid hrow
      subst e0
      clear hu hr hx hrow hB hn5' HQ
      go_wp2
      go_ret2
      refine ⟨_, rfl, ?_, HB.out⟩
      unfold SplitV
      rw [HR.out]
      exact ⟨_, rfl, HO.out⟩
    · have hp : 0 < (n5 : Int) := by omega
      have hcv3 := hu.conv
      have C3 := fun w => number_of (bsL (R.take 2)) (by rw [size_bsL, List.length_take]; omega) w
      rw [data_bsL] at C3
      have hV := leN_le (R.take 2) 2 (by rw [List.length_take]; omega)
      have HV := Lib.hid (show valN (R.take 2) = valN (R.take 2) from rfl)
      have HBad := Lib.hid (fun h2 => recsOf_bad (l := R) h0 h2)
      have HMore := Lib.hid (fun h2 => recsOf_more (l := R) h0 h2)
      generalize valN (R.take 2) = n at C3 hV HBad HMore
      generalize bsL (R.take 2) = Xn at hcv3 C3
      have C4 := take_any (n := n) hx hr (by omega)
      have HBO := Lib.hid hB
      have HO := Lib.hid hrow
      have HX := Lib.hid hx
      have hnn : (n : Int) ≤ 70000 := by omega
      have HN5 := Lib.hid hn5'
      clear hu hr hx hrow hB HV hV hn5'
      go_wp2_with fail
      refine (C3 _).mono ?_
      rintro e w' ⟨rfl, rfl⟩
      clear hcv3
      go_wp2_with fail
      refine C4.mono ?_
      rintro e w4 ⟨u4, v4, rfl, hu4, hr4, hx4, hs4⟩
      obtain ⟨a4, n4, c4, rfl, hn4⟩ := hu4.shape
      have hn4' := Lib.hid (show n4 = min n (R.length - 2) by rw [hn4, List.length_take, List.length_drop])
      have HB4 := Lib.hid (HB.out.trans (hs4.below (B := w.heap.size) (fun k e => by omega) HB.out.size))
      have HO4 := Lib.hid (owns_stay HO.out hs4 (fun k hk e => by
        obtain ⟨C, hC⟩ := owns_block HO.out hk
        rw [e, HX.out] at hC
        simp [boxO] at hC))
      clear hn4 C3 C4
      have hbad : R.length < 2 ∨ (¬ R.length < 2 ∧ 1300 < n) ∨ (¬ R.length < 2 ∧ ¬ 1300 < n ∧ R.length - 2 < n) ∨ ¬ (R.length < 2 ∨ 1300 < n ∨ R.length - 2 < n) := by omega
      rcases hbad with h2 | h2 | h2 | h2
      · have HR := Lib.hid (show recsOf L = none by rw [HQ.out, HBad.out (by omega)]; rfl)
        have e5 : (n5 : Int) < 2 := by have := HN5.out; omega
        clear h2 hu4 hr4 hx4 hs4
        go_wp2
        go_ret2
        refine ⟨_, rfl, ?_, HB4.out⟩
        unfold SplitV
        rw [HR.out]
        rfl
      · have HR := Lib.hid (show recsOf L = none by rw [HQ.out, HBad.out (by omega)]; rfl)
        have e5 : ¬ (n5 : Int) < 2 := by have := HN5.out; omega
        have e6 : (1300 : Int) < (n : Int) := by omega
        clear h2 hu4 hr4 hx4 hs4
        go_wp2
        go_ret2
        refine ⟨_, rfl, ?_, HB4.out⟩
        unfold SplitV
        rw [HR.out]
        rfl
      · have HR := Lib.hid (show recsOf L = none by rw [HQ.out, HBad.out (by omega)]; rfl)
        have e5 : ¬ (n5 : Int) < 2 := by have := HN5.out; omega
        have e6 : ¬ (1300 : Int) < (n : Int) := by omega
        have e7 : (n4 : Int) < (n : Int) := by have := hn4'.out; omega
        clear h2 hu4 hr4 hx4 hs4
        go_wp2
        go_ret2
        refine ⟨_, rfl, ?_, HB4.out⟩
        unfold SplitV
        rw [HR.out]
        rfl
      · have hm := HMore.out h2
        have e5 : ¬ (n5 : Int) < 2 := by have := HN5.out; omega
        have e6 : ¬ (1300 : Int) < (n : Int) := by omega
        have e7 : ¬ (n4 : Int) < (n : Int) := by have := hn4'.out; omega
        have hcv := hu4.conv
        have HR := Lib.hid (show recsOf L = (recsOf ((R.drop 2).drop n)).map ((acc ++ [bsL ((R.drop 2).take n)]) ++ ·) by
          rw [HQ.out, hm, List.drop_drop]
          cases recsOf (R.drop (2 + n)) <;> simp)
        generalize bsL ((R.drop 2).take n) = X at hcv HR
        have hlen : ((R.drop 2).drop n).length + 2 + n = R.length := by rw [List.length_drop, List.length_drop]; omega
        have HL := Lib.hid hlen
        have HX4 := Lib.hid hx4
        have HR4 := Lib.hid hr4
        have HH := Lib.hid h2
        have hac : acc.length ≤ 1048576 := by omega
        have hszW : w.heap.size ≤ w4.heap.size := HB4.out.size
        clear hm hu4 hr4 hx4 hs4 hlen h2 HQ HBad HMore
        go_wp2_with (at_builtin; refine wpList_append_own _ rfl _ _ 45 rfl w.heap.size 9 i0 (.string ⟨#[]⟩) 1 16 Tryz.underlying45 hi hz0 hz1 hz2 rfl (by decide) _ _ _ rfl (HO4.out.alloc _) ⟨w4.heap.size, 0, none⟩ 1 1 [.string X] rfl rfl (cell_one_new _ _ _) (by simp [Value.oneCell']) (by unfold maxLen; omega) (by omega) (by simp; omega) ?_; intro v' w5 hown' hgrow _)
        have hk5 : ∀ (k : Nat) (o : Obj), w4.heap[k]? = some o → (∀ C, o ≠ Obj.cells C 9 (0, 0)) → w5.heap[k]? = some o := fun k o hk hne =>
          (hgrow.block k (by have := lt_of_heap hk; simp; omega) (fun e => by
            obtain ⟨C, hC⟩ := owns_block HO4.out e.symm
            rw [hk] at hC
            exact hne C (Option.some.inj hC))).trans (heap_alloc_old hk _)
        have hx5 := hk5 _ _ HX4.out (fun C e => by simp [boxO] at e)
        have hr5 := HR4.out.same (w' := w5) (fun g C f hg => (hk5 g _ hg (fun C' e => by simp at e)).trans hg.symm)
        have hB5 : Below w.heap.size w4 w5 := ((Below.refl _ w4).alloc hszW _).grown hgrow (by simp; omega) (fun j ej => (HO4.out.lt j ej).1)
        have HO5 := Lib.hid hown'
        have HB5 := Lib.hid (HB4.out.trans hB5)
        have C5 := take_any (n := 2) hx5 hr5 (by omega)
        have HX5 := Lib.hid hx5
        clear hown' hgrow hk5 hx5 hr5 hB5 hcv
        refine C5.mono ?_
        rintro e w6 ⟨u6, v6, rfl, hu6, hr6, hx6, hs6⟩
        obtain ⟨a6, n6, c6, rfl, -⟩ := hu6.shape
        have HU6 := Lib.hid hu6
        have HR6 := Lib.hid hr6
        have HX6 := Lib.hid hx6
        have HB6 := Lib.hid (HB5.out.trans (hs6.below (B := w.heap.size) (fun k e => by omega) HB5.out.size))
        have HO6 := Lib.hid (owns_stay HO5.out hs6 (fun k hk e => by
          obtain ⟨C, hC⟩ := owns_block HO5.out hk
          rw [e, HX5.out] at hC
          simp [boxO] at hC))
        clear hu6 hr6 hx6 hs6 C5
        go_wp2
        go_roundg ((R.drop 2).drop n).length
        case measure => have := HL.out; omega
        case rel => exact ⟨acc ++ [X], (R.drop 2).drop n, v6, rfl, HR.out, by have := HL.out; rw [List.length_append]; simp only [List.length_cons, List.length_nil]; omega, HU6.out, HR6.out, HX6.out, by rw [List.length_append, strVals_snoc]; exact HO6.out, HB6.out⟩
end Go.Proofs.YteboacjniokfpaaGreatDoor

namespace Go.Proofs.YteboacjniokfpaaGreatDoor
open Go.RowKit Go Go.Maps SM

theorem made_write' (s : DS) (n : Int) (x : ByteArray) : (s.write n x).made ≤ s.made + 1 := by
  unfold DS.write
  split
  · split <;> simp [DS.lays, DS.tick, DS.goes]
  · omega
theorem made_sync' (s : DS) : s.sync.made ≤ s.made + 1 := by
  unfold DS.sync
  split
  · omega
  · split <;> simp [DS.tick, DS.goes, DS.settled]
theorem len_write (s : DS) (n : Int) (x : ByteArray) : (s.write n x).stay.length = s.stay.length := by
  unfold DS.write
  split
  · split <;> simp [DS.lays, DS.tick, DS.goes, length_laid]
  · rfl
theorem len_sync (s : DS) : s.sync.stay.length = s.stay.length := by
  unfold DS.sync
  split
  · rfl
  · split <;> simp [DS.tick, DS.goes, DS.settled, length_laid]

def LObj (b gen : Nat) (v : Value) (dead : Bool) : Obj := .cells #[.pointer (some ⟨b, 0, none⟩), .int .i64 gen, v, .bool dead] 85 (0, 0)
section
variable {l b gen : Nat} {v : Value} {dead : Bool} {w : World}
theorem LObj.c0 (h : w.heap[l]? = some (LObj b gen v dead)) : w.cell? ⟨l, 0, none⟩ = some (.pointer (some ⟨b, 0, none⟩)) := by simp [World.cell?, h, LObj]
theorem LObj.c1 (h : w.heap[l]? = some (LObj b gen v dead)) : w.cell? ⟨l, 1, none⟩ = some (.int .i64 gen) := by simp [World.cell?, h, LObj]
theorem LObj.c2 (h : w.heap[l]? = some (LObj b gen v dead)) : w.cell? ⟨l, 2, none⟩ = some v := by simp [World.cell?, h, LObj]
theorem LObj.c3 (h : w.heap[l]? = some (LObj b gen v dead)) : w.cell? ⟨l, 3, none⟩ = some (.bool dead) := by simp [World.cell?, h, LObj]
theorem LObj.fr (h : w.heap[l]? = some (LObj b gen v dead)) (i : Nat) : w.frozen? ⟨l, i, none⟩ = false := by simp [World.frozen?, h, LObj]
end
/-- a log in memory: its object, the row of its bytes, its disk -/
structure LogAt (base l b g m : Nat) (v : Value) (gen : Nat) (B : List UInt8) (dead : Bool) (s : DS) (w : World) : Prop where
  obj : w.heap[l]? = some (LObj b gen v dead)
  row : w.ownsRow base 5 1 v B.length (u8c B)
  disk : DiskAt b g m s w
  far : v.ownBlock ≠ some g
  le : B.length ≤ 64 * halfN s
  gle : gen ≤ 1099511627776
def LFoot (l b g m : Nat) (v : Value) : Nat → Prop := fun k => k = l ∨ Foot b g m k ∨ v.ownBlock = some k
section
variable {base l b g m gen : Nat} {v : Value} {B : List UInt8} {dead : Bool} {s : DS} {w w' : World}
theorem LogAt.stay {F : Nat → Prop} (h : LogAt base l b g m v gen B dead s w) (k : Stir F w w') (hn : ∀ i, LFoot l b g m v i → ¬ F i) : LogAt base l b g m v gen B dead s w' :=
  ⟨k.keep h.obj (hn _ (.inl rfl)), owns_stay h.row k (fun _ hi => hn _ (.inr (.inr hi))), h.disk.stay k (fun _ hi => hn _ (.inr (.inl hi))), h.far, h.le, h.gle⟩
theorem LogAt.below (h : LogAt base l b g m v gen B dead s w) (k : Below w.heap.size w w') : LogAt base l b g m v gen B dead s w' := h.stay (Stir.of_below (F := fun _ => False) k) (fun _ _ h => h)
theorem LogAt.not_cells (h : LogAt base l b g m v gen B dead s w) {k : Nat} {C : Array Value} {e : TypeId} {f : Nat × Nat} (hk : w.heap[k]? = some (.cells C e f)) (h1 : e ≠ 95) (h2 : e ≠ 5) (h3 : e ≠ 85) : ¬ LFoot l b g m v k := by
  rintro (rfl | hf | hf)
  · rw [h.obj] at hk
    simp [LObj] at hk
    exact h3 hk.2.1.symm
  · exact h.disk.not_cells hk h1 h2 hf
  · obtain ⟨C', hC⟩ := owns_block h.row hf
    rw [hC] at hk
    simp at hk
    exact h2 hk.2.1.symm
/-- the disk does something: the log's object and its bytes stay -/
theorem LogAt.log_not_disk (h : LogAt base l b g m v gen B dead s w) : ¬ Foot b g m l := h.disk.not_cells h.obj (by decide) (by decide)
theorem LogAt.row_not_disk (h : LogAt base l b g m v gen B dead s w) {k : Nat} (hk : v.ownBlock = some k) : ¬ Foot b g m k := by
  obtain ⟨C, hC⟩ := owns_block h.row hk
  obtain ⟨⟨C1, f1, e1⟩, ⟨C2, f2, e2⟩, ⟨es, c, e3⟩⟩ := h.disk.kinds
  rintro (rfl | rfl | rfl)
  · rw [hC] at e1; simp at e1
  · exact h.far hk
  · rw [hC] at e3; cases e3
theorem LogAt.turn {s' : DS} (h : LogAt base l b g m v gen B dead s w) (hd : DiskAt b g m s' w') (hs : Stir (Foot b g m) w w') (hl : s'.stay.length = s.stay.length) : LogAt base l b g m v gen B dead s' w' :=
  ⟨hs.keep h.obj h.log_not_disk, owns_stay h.row hs (fun k hk => h.row_not_disk hk), hd, h.far, by have := h.le; unfold halfN at *; rw [hl]; exact this, h.gle⟩
theorem LogAt.len (h : LogAt base l b g m v gen B dead s w) : B.length ≤ 524288 := by
  have := h.le
  have := h.disk.1.le
  unfold halfN at *; omega

theorem gen_any (h : LogAt base l b g m v gen B dead s w) :
    Calls Tryz.prog 28 #[.pointer (some ⟨l, 0, none⟩)] w fun e w' => e = .returned (.int .i64 gen) ∧ w = w' := by
  have c1 := LObj.c1 h.obj
  clear h
  go_enter Tryz.func28, Tryz.ntmps28
  go_wp2
  go_ret
  exact ⟨rfl, rfl⟩
theorem ldead_any (h : LogAt base l b g m v gen B dead s w) :
    Calls Tryz.prog 31 #[.pointer (some ⟨l, 0, none⟩)] w fun e w' => e = .returned (.bool dead) ∧ w = w' := by
  have c3 := LObj.c3 h.obj
  clear h
  go_enter Tryz.func31, Tryz.ntmps31
  go_wp2
  go_ret
  exact ⟨rfl, rfl⟩
theorem note_any (h : LogAt base l b g m v gen B dead s w) (e : Int) :
    Calls Tryz.prog 55 #[.pointer (some ⟨l, 0, none⟩), .int .i64 e] w fun r w' => r = .returned (.int .i64 e) ∧ LogAt base l b g m v gen B (e == 2) s w' ∧ Stir (· = l) w w' := by
  have f3 := LObj.fr h.obj 3
  have c3 := LObj.c3 h.obj
  have hs : Stir (· = l) w (w.setCell ⟨l, 3, none⟩ (.bool (e == 2))) := (Stir.refl (· = l) w).set (.inl rfl) _
  have hl : LogAt base l b g m v gen B (e == 2) s (w.setCell ⟨l, 3, none⟩ (.bool (e == 2))) := by
    refine ⟨?_, owns_stay h.row hs (fun k hk e => ?_), h.disk.stay hs (fun i hi e => h.log_not_disk (e ▸ hi)), h.far, h.le, h.gle⟩
    · rw [heap_set h.obj]; simp [LObj]
    · obtain ⟨C, hC⟩ := owns_block h.row hk
      rw [e, h.obj] at hC
      simp [LObj] at hC
  have HL := Lib.hid hl
  have HS := Lib.hid hs
  clear h hl hs
  obtain ⟨q, hq⟩ : ∃ q, (e == 2) = q := ⟨_, rfl⟩
  rw [hq] at HL HS ⊢
  go_enter Tryz.func55, Tryz.ntmps55
  go_wp2
  go_ret
  exact ⟨rfl, HL.out, HS.out⟩

set_option maxRecDepth 100000 in
theorem say_any {gen used : Nat} (h : DiskAt b g m s w) (hm : s.made < 1000000000) (hg : gen ≤ 9223372036854775807) (hu : used ≤ 9223372036854775807) :
    Calls Tryz.prog 62 #[.pointer (some ⟨b, 0, none⟩), .int .i64 gen, .int .i64 used] w fun e w' => e = .returned (.int .i64 (heads gen used s).1) ∧ DiskAt b g m (heads gen used s).2 w' ∧ Stir (Foot b g m) w w' := by
  have C1 := fun w => first_any gen used hg hu w
  have hh : heads gen used s = if s.writeE 0 (headB gen used) = 0 then ((s.write 0 (headB gen used)).syncE, (s.write 0 (headB gen used)).sync) else (s.writeE 0 (headB gen used), s.write 0 (headB gen used)) := by
    unfold heads put puts puts
    rw [secB_head]
    simp only [Nat.zero_add, Int.natCast_zero]
    by_cases e : s.writeE 0 (headB gen used) = 0
    · simp [e]
    · simp [e]
  rw [hh]
  clear hh
  have C2 := fun w (h : DiskAt b g m s w) => write_any h (by omega) 0 ⟨by decide, by decide⟩ (headB gen used)
  have hm2 := made_write' s 0 (headB gen used)
  generalize headB gen used = X at *
  have C3 := fun w (h : DiskAt b g m (s.write 0 X) w) => sync_any h (by omega)
  have HH := Lib.hid h
  by_cases e : s.writeE 0 X = 0
  · rw [if_pos e]
    rw [e] at C2
    clear h
    go_enter Tryz.func62, Tryz.ntmps62
    go_wp2_with fail
    refine (C1 _).mono ?_
    rintro e w1 ⟨rfl, hB1⟩
    have H1 := Lib.hid (HH.out.below hB1)
    have S1 := Lib.hid (Stir.of_below (F := Foot b g m) hB1)
    clear hB1
    go_wp2_with fail
    refine (C2 _ H1.out).mono ?_
    rintro e w2 ⟨rfl, h2, s2⟩
    have H2 := Lib.hid h2
    have S2 := Lib.hid (S1.out.trans s2 (fun i e => .inl e))
    clear h2 s2
    go_wp2_with fail
    refine (C3 _ H2.out).mono ?_
    rintro e w3 ⟨rfl, h3, s3⟩
    have H3 := Lib.hid h3
    have S3 := Lib.hid (S2.out.trans s3 (fun i e => .inl e))
    clear h3 s3
    go_wp2
    go_ret
    exact ⟨rfl, H3.out, S3.out⟩
  · rw [if_neg e]
    have hne : (s.writeE 0 X != 0) = true := by simpa using e
    generalize s.writeE 0 X = E at *
    clear h
    go_enter Tryz.func62, Tryz.ntmps62
    go_wp2_with fail
    refine (C1 _).mono ?_
    rintro e w1 ⟨rfl, hB1⟩
    have H1 := Lib.hid (HH.out.below hB1)
    have S1 := Lib.hid (Stir.of_below (F := Foot b g m) hB1)
    clear hB1
    go_wp2_with fail
    refine (C2 _ H1.out).mono ?_
    rintro e w2 ⟨rfl, h2, s2⟩
    have H2 := Lib.hid h2
    have S2 := Lib.hid (S1.out.trans s2 (fun i e => .inl e))
    clear h2 s2
    go_wp2
    go_ret
    exact ⟨rfl, H2.out, S2.out⟩
end
end Go.Proofs.YteboacjniokfpaaGreatDoor

namespace Go.Proofs.YteboacjniokfpaaGreatDoor
open Go.RowKit Go Go.Maps SM

section
variable {base l b g m gen : Nat} {v : Value} {B : List UInt8} {dead : Bool} {s : DS} {w w' : World}
theorem DiskAt.drew (h : DiskAt b g m s w) : DiskAt b g m s w.drew := h.stay ((Stir.refl (fun _ => False) w).drew) (fun _ _ h => h)
set_option maxRecDepth 100000 in
theorem lsector_at (h0 : w.heap[l]? = some (LObj b gen v dead)) (hd : DiskAt b g m s w) (hg : gen ≤ 1099511627776) (n : Nat) (hn : n ≤ 1048576) :
    Calls Tryz.prog 115 #[.pointer (some ⟨l, 0, none⟩), .int .i64 n] w fun e w' => e = .returned (.int .i64 ((halfAt s.stay gen + n / 64 : Nat) : Int)) ∧ Below w.heap.size w w' := by
  have c0 : w.drew.cell? ⟨l, 0, none⟩ = some (.pointer (some ⟨b, 0, none⟩)) := LObj.c0 h0
  have c1 : w.drew.cell? ⟨l, 1, none⟩ = some (.int .i64 gen) := LObj.c1 h0
  have C := half_any hd.drew
  have hle := hd.1.le
  have HE := Lib.hid (show halfAt s.stay gen = 1 + gen % 2 * halfN s from rfl)
  have hN : halfN s ≤ 16384 := by unfold halfN; omega
  generalize halfN s = N at *
  have e1 : (gen : Int) % 2 = ((gen % 2 : Nat) : Int) := by omega
  have e2 : (gen : Int).tmod 2 = ((gen % 2 : Nat) : Int) := by rw [Int.tmod_eq_emod_of_nonneg (by omega)]; omega
  obtain ⟨p, hp⟩ : ∃ p, gen % 2 * N = p := ⟨_, rfl⟩
  have hp2 : p ≤ 16384 := by rw [← hp]; rcases Nat.mod_two_eq_zero_or_one gen with e | e <;> rw [e] <;> omega
  have e3 : ((gen % 2 : Nat) : Int) * (N : Int) = (p : Int) := by rw [← hp]; simp
  have HP := Lib.hid hp
  have k1 := wrapI (p : Int) (by omega) (by omega)
  have k2 := wrapI (1 + (p : Int)) (by omega) (by omega)
  have k3 := wrapI ((n : Int) / 64) (by omega) (by omega)
  have k4 := wrapI (1 + (p : Int) + (n : Int) / 64) (by omega) (by omega)
  generalize gen % 2 = q at *
  clear h0 hd hle hp
  go_enter Tryz.func115, Tryz.ntmps115
  go_wp2
  go_region_held3 (fun w' => w'.cell? ⟨l, 0, none⟩ = some (.pointer (some ⟨b, 0, none⟩)) ∧ w'.cell? ⟨l, 1, none⟩ = some (.int .i64 gen)) (exact ⟨c0, c1⟩) (first | (go_at_call 131; refine C.mono ?_; rintro e w3 ⟨rfl, rfl⟩))
  go_wp2
  go_ret
  refine ⟨?_, below_drewN (Below.refl _ w) 1⟩
  rw [HE.out, HP.out]
  exact congrArg (fun z => Ending.returned (Value.int .i64 z)) (by omega)

set_option maxRecDepth 100000 in
theorem room_any (h : LogAt base l b g m v gen B dead s w) :
    Calls Tryz.prog 29 #[.pointer (some ⟨l, 0, none⟩)] w fun e w' => e = .returned (.int .i64 ((64 * halfN s : Nat) - (B.length : Int))) ∧ Below w.heap.size w w' := by
  obtain ⟨a, c, rfl⟩ := row_shape h.row
  have c0 : w.drew.cell? ⟨l, 0, none⟩ = some (.pointer (some ⟨b, 0, none⟩)) := LObj.c0 h.obj
  have c2 : w.drew.cell? ⟨l, 2, none⟩ = some (.slice a B.length c) := LObj.c2 h.obj
  have C := halfSize_any h.disk.drew
  have hle := h.le
  have hN : 64 * halfN s ≤ 1048576 := by have := h.disk.1.le; unfold halfN; omega
  generalize 64 * halfN s = N at *
  have k1 := wrapI ((N : Int) - (B.length : Int)) (by omega) (by omega)
  clear h
  go_enter Tryz.func29, Tryz.ntmps29
  go_wp2
  go_region_held3 (fun w' => w'.cell? ⟨l, 0, none⟩ = some (.pointer (some ⟨b, 0, none⟩)) ∧ w'.cell? ⟨l, 2, none⟩ = some (.slice a B.length c)) (exact ⟨c0, c2⟩) (first | (go_at_call 74; refine C.mono ?_; rintro e w3 ⟨rfl, rfl⟩))
  go_wp2
  go_ret
  exact ⟨rfl, below_drewN (Below.refl _ w) 1⟩
end
end Go.Proofs.YteboacjniokfpaaGreatDoor

