/-
  NvRep / NvA / NvB / NvC / NvD / NvE.
-/
import Derived.Shelf.Strings.Repeat
import Derived.Ground.NamesProg
import Derived.Lib.Agree
import Derived.KernelRfl
import Derived.Test.YtmloljjllmmkoaaGreatProg
import Derived.Test.YtmloljjllmmkoaaGreatNA
import Derived.Test.YtmloljjllmmkoaaGreatMB
import Derived.Test.YtmloljjllmmkoaaGreatMD
import Derived.IntWalk
import Derived.OwnWalk
import Derived.Laws.MakeOwn
import Derived.Laws.OwnMore
import Derived.Maps.AppendAt
import Derived.RangeFuncBox
import Derived.Lib.Strings
import Derived.Laws.BytesArg
import Derived.Deep.QuietTactic
import Derived.BigRegion
import Derived.Lib.ConvBytes
import Derived.Test.YtmloljjllmmkoaaGreatMC
import Derived.Laws.AppendOwnNone
import Derived.Lib.AppendStr
import Derived.Deep.RegionLaw
import Derived.RegionTactic
import Derived.Deep.RegionHeld3
namespace Go.Proofs
open Go.Shelf
def Tryz.lays105_ren : Go.Shelf.Ren := ⟨fun | 105 => 42 | 212 => 81 | 99 => 82 | 165 => 83 | 166 => 63 | 170 => 84 | 169 => 64 | 263 => 112 | 264 => 113 | 206 => 114 | 240 => 95 | 241 => 115 | 276 => 122 | 277 => 129 | n => n, fun | 9 => 9 | 3 => 3 | 4 => 4 | 20 => 20 | 0 => 0 | 46 => 158 | 109 => 159 | 5 => 5 | 72 => 125 | 76 => 131 | 51 => 177 | 146 => 178 | 53 => 180 | 148 => 181 | 70 => 123 | 37 => 85 | 75 => 130 | 127 => 167 | 164 => 190 | 80 => 70 | n => n, fun | n => n⟩
theorem Tryz.lays105 : Go.Proofs.Lays.n105 Tryz.prog Tryz.lays105_ren := {
  mixed := by kernel_rfl
  f99 := Tryz.func82.trans (congrArg some (by kernel_rfl))
  f105 := Tryz.func42.trans (congrArg some (by kernel_rfl))
  f165 := Tryz.func83.trans (congrArg some (by kernel_rfl))
  f166 := Tryz.func63.trans (congrArg some (by kernel_rfl))
  f169 := Tryz.func64.trans (congrArg some (by kernel_rfl))
  f170 := Tryz.func84.trans (congrArg some (by kernel_rfl))
  f206 := Tryz.func114.trans (congrArg some (by kernel_rfl))
  f212 := Tryz.func81.trans (congrArg some (by kernel_rfl))
  f240 := Tryz.func95.trans (congrArg some (by kernel_rfl))
  f241 := Tryz.func115.trans (congrArg some (by kernel_rfl))
  f263 := Tryz.func112.trans (congrArg some (by kernel_rfl))
  f264 := Tryz.func113.trans (congrArg some (by kernel_rfl))
  f276 := Tryz.func122.trans (congrArg some (by kernel_rfl))
  f277 := Tryz.func129.trans (congrArg some (by kernel_rfl))
  t0 := Tryz.underlying0
  a0 := Tryz.isAgg0
  z0 := Tryz.sizeOf0
  v0 := Tryz.zeroValue0
  t3 := Tryz.underlying3
  a3 := Tryz.isAgg3
  z3 := Tryz.sizeOf3
  v3 := Tryz.zeroValue3
  t4 := Tryz.underlying4
  a4 := Tryz.isAgg4
  z4 := Tryz.sizeOf4
  v4 := Tryz.zeroValue4
  t5 := Tryz.underlying5
  a5 := Tryz.isAgg5
  z5 := Tryz.sizeOf5
  v5 := Tryz.zeroValue5
  t9 := Tryz.underlying9
  a9 := Tryz.isAgg9
  z9 := Tryz.sizeOf9
  v9 := Tryz.zeroValue9
  t20 := Tryz.underlying20
  a20 := Tryz.isAgg20
  z20 := Tryz.sizeOf20
  v20 := Tryz.zeroValue20
  t37 := Tryz.underlying85
  a37 := Tryz.isAgg85
  z37 := Tryz.sizeOf85
  v37 := Tryz.zeroValue85
  t46 := Tryz.underlying158
  a46 := Tryz.isAgg158
  z46 := Tryz.sizeOf158
  v46 := Tryz.zeroValue158
  t51 := Tryz.underlying177
  a51 := Tryz.isAgg177
  z51 := Tryz.sizeOf177
  v51 := Tryz.zeroValue177
  t53 := Tryz.underlying180
  a53 := Tryz.isAgg180
  z53 := Tryz.sizeOf180
  v53 := Tryz.zeroValue180
  t70 := Tryz.underlying123
  a70 := Tryz.isAgg123
  z70 := Tryz.sizeOf123
  v70 := Tryz.zeroValue123
  t72 := Tryz.underlying125
  a72 := Tryz.isAgg125
  z72 := Tryz.sizeOf125
  v72 := Tryz.zeroValue125
  t75 := Tryz.underlying130
  a75 := Tryz.isAgg130
  z75 := Tryz.sizeOf130
  v75 := Tryz.zeroValue130
  t76 := Tryz.underlying131
  a76 := Tryz.isAgg131
  z76 := Tryz.sizeOf131
  v76 := Tryz.zeroValue131
  t109 := Tryz.underlying159
  a109 := Tryz.isAgg159
  z109 := Tryz.sizeOf159
  v109 := Tryz.zeroValue159
  t127 := Tryz.underlying167
  a127 := Tryz.isAgg167
  z127 := Tryz.sizeOf167
  v127 := Tryz.zeroValue167
  t146 := Tryz.underlying178
  a146 := Tryz.isAgg178
  z146 := Tryz.sizeOf178
  v146 := Tryz.zeroValue178
  t148 := Tryz.underlying181
  a148 := Tryz.isAgg181
  z148 := Tryz.sizeOf181
  v148 := Tryz.zeroValue181
  t164 := Tryz.underlying190
  a164 := Tryz.isAgg190
  z164 := Tryz.sizeOf190
  v164 := Tryz.zeroValue190 }
end Go.Proofs

namespace Go.Proofs.YtmloljjllmmkoaaGreat
open Go.RowKit Go Go.Maps SM

theorem extra : Builder.Extra Tryz.prog Tryz.lays105_ren := {
  sizeBuilder := by kernel_rfl
  liesBuilder := by kernel_rfl
  t5 := Tryz.lays105.t5
  a5 := Tryz.lays105.a5
  z5 := Tryz.lays105.z5
  v5 := Tryz.lays105.v5
  infoByte := by kernel_rfl
  cellsByte := by kernel_rfl
  sizeByte := by kernel_rfl
  neB5 := by decide }
def zeros (k : Nat) : ByteArray := ⟨(List.replicate k (0 : UInt8)).toArray⟩
theorem size_zeros (k : Nat) : (zeros k).size = k := by simp [zeros, ByteArray.size]
theorem repeat_one : ∀ k : Nat, Lib.repeatL [(0 : UInt8)] k = List.replicate k 0
  | 0 => rfl
  | k + 1 => by
    have h := repeat_one k
    simp only [Lib.repeatL, List.replicate_succ] at h ⊢
    rw [h]; rfl
theorem repeat_any (k : Nat) (hk : k ≤ 256) (w : World) :
    Calls Tryz.prog 42 #[.string ⟨#[0]⟩, .int .i64 k] w fun e w' => e = .returned (.string (zeros k)) ∧ Below w.heap.size w w' := by
  have h := Any.strings_Repeat Tryz.lays105 extra ⟨#[0]⟩ k w (by omega) (by show 1 * k ≤ _; omega)
  have e : (⟨(Lib.repeatL (⟨#[0]⟩ : ByteArray).data.toList k).toArray⟩ : ByteArray) = zeros k := by
    show (⟨(Lib.repeatL [(0 : UInt8)] k).toArray⟩ : ByteArray) = _
    rw [repeat_one]; rfl
  rw [e] at h
  exact h

/-! ### a text's bytes, noughts behind them -/
def fillB (s : ByteArray) : ByteArray := s ++ zeros (64 - s.size)
/-! ### a number in so many bytes -/
def u8c (l : List UInt8) : List Value := l.map fun b => Value.int .u8 b.toNat
theorem u8c_snoc (l : List UInt8) (x : UInt8) : u8c (l ++ [x]) = u8c l ++ [.int .u8 x.toNat] := by simp [u8c]
def bsL (l : List UInt8) : ByteArray := ⟨l.toArray⟩
theorem size_bsL (l : List UInt8) : (bsL l).size = l.length := by simp [bsL, ByteArray.size]
theorem bsL_append (a b : List UInt8) : bsL (a ++ b) = bsL a ++ bsL b := by
  apply ByteArray.ext
  simp [bsL, ByteArray.data_append]
theorem bsL_data (x : ByteArray) : bsL x.data.toList = x := ByteArray.ext (by simp [bsL])
theorem data_bsL (l : List UInt8) : (bsL l).data.toList = l := by simp [bsL]
theorem row_cells' {W : World} {base : Nat} {e : TypeId} {v : Value} {n : Nat} {xs : List Value} (h : W.ownsRow base e 1 v n xs) (hv : v ≠ .slice none 0 0) :
    ∃ g cap, v = .slice (some ⟨g, 0, none⟩) n cap ∧ base ≤ g ∧ g < W.heap.size ∧ n ≤ cap ∧ cap ≤ maxLen ∧ ∀ (i : Nat) u, xs[i]? = some u → W.cell? ⟨g, i, none⟩ = some u := by
  rcases h.2 with ⟨e, _⟩ | ⟨g, cap, cur, h1, h2, h3, h4, h5, h6, h7⟩
  · exact absurd e hv
  · refine ⟨g, cap, h1, h2, (Array.getElem?_eq_some_iff.1 h3).1, h4, h5, fun i u hu => ?_⟩
    have hi : i < n := by
      have := (List.getElem?_eq_some_iff.1 hu).1
      have := h.1
      omega
    rw [← h7, List.getElem?_take_of_lt (by omega)] at hu
    simp only [World.cell?, h3]
    simpa using hu
/-- bytes of a row of the call's own, as a text -/
theorem conv_row (W : World) (base : Nat) (v : Value) (l : List UInt8) (h : W.ownsRow base 5 1 v l.length (u8c l)) :
    (convert 85 9 v).run Tryz.prog W = .ok (.string (bsL l)) W := by
  by_cases hv : v = .slice none 0 0
  · have hl : l.length = 0 := by
      rcases h.2 with ⟨_, e⟩ | ⟨g, cap, cur, h1, _⟩
      · exact e
      · rw [hv] at h1; cases h1
    obtain rfl : l = [] := List.eq_nil_of_length_eq_zero hl
    subst hv
    exact run_convert_bytes_nil W 85 5 Tryz.underlying85 Tryz.underlying5 0 0 9 Tryz.underlying9
  · obtain ⟨g, cap, rfl, _, _, _, _, hc⟩ := row_cells' h hv
    exact run_convert_bytes_back W 85 9 5 ⟨g, 0, none⟩ cap l Tryz.underlying85 Tryz.underlying5 Tryz.underlying9 (fun j hj => by
      rw [Addr.add_lit, Nat.zero_add, hc j (.int .u8 (l[j].toNat : Nat)) (by simp [u8c, hj])])
theorem byte_wrap (n : Nat) : IntKind.u8.wrap (n : Int) = ((UInt8.ofNat (n % 256)).toNat : Int) := by
  show (n : Int) % 256 = _
  simp
theorem take_leN : ∀ (k j n : Nat), j ≤ k → (leN n k).take j = leN n j
  | _, 0, _, _ => by simp [leN]
  | k + 1, j + 1, n, h => by rw [leN, List.take_succ_cons, take_leN k j _ (by omega), leN]
set_option maxRecDepth 100000 in
set_option maxHeartbeats 1000000 in
theorem number_any (n k : Nat) (hn : n ≤ 9223372036854775807) (hk : k ≤ 8) (w : World) :
    Calls Tryz.prog 49 #[.int .i64 n, .int .i64 k] w fun e w' => e = .returned (.string (bsL (leN n k))) ∧ Below w.heap.size w w' := by
  obtain ⟨i0, hi, hz0, hz1, hz2⟩ := info_parts info5e
  have hk8 : (k : Int) ≤ 8 := by omega
  go_enter Tryz.func49, Tryz.ntmps49
  go_wp2
  go_loopw [5, 0, 7] (fun v m i wr => ∃ j : Nat, j ≤ k ∧ i = .int .i64 j ∧ m = .int .i64 ((n / 256 ^ j : Nat) : Int) ∧ wr.ownsRow w.heap.size 5 1 v (leN n j).length (u8c (leN n j)) ∧ Below w.heap.size w wr) (fun _ _ i _ => k - (intOf i).toNat)
  case atStart => exact ⟨0, Nat.zero_le _, rfl, by simp, World.ownsRow_nil _ _ _ _, Below.refl _ _⟩
  case round =>
    obtain ⟨j, hj, rfl, rfl, hrow, hB⟩ := hrel
    by_cases hlt : j < k
    · have hji : (j : Int) < (k : Int) := by omega
      have HS := Lib.hid (show leN n (j + 1) = leN n j ++ [UInt8.ofNat (n / 256 ^ j % 256)] from leN_snoc j n)
      have HP := Lib.hid (show n / 256 ^ (j + 1) = n / 256 ^ j / 256 by rw [Nat.div_div_eq_div_mul, Nat.pow_succ])
      have hle : n / 256 ^ j ≤ 9223372036854775807 := Nat.le_trans (Nat.div_le_self _ _) hn
      have hbw := byte_wrap (n / 256 ^ j)
      have hlen := length_leN n j
      generalize n / 256 ^ j = q at *
      generalize UInt8.ofNat (q % 256) = x at *
      generalize leN n j = L at *
      have hszW : w.heap.size ≤ wr.heap.size := hB.size
      go_wp2_with (at_builtin; refine wpList_append_own _ rfl _ _ 85 rfl w.heap.size 5 i0 (.int .u8 0) 1 1 Tryz.underlying85 hi hz0 hz1 hz2 rfl (by decide) _ _ _ rfl (hrow.alloc _) ⟨wr.heap.size, 0, none⟩ 1 1 [.int .u8 x.toNat] rfl rfl (cell_one_new _ _ _) (by simp [Value.oneCell']) (by unfold maxLen; omega) (by omega) (by simp; omega) ?_; intro v' w1 hown' hgrow _)
      have hB1 : Below w.heap.size w w1 := (hB.alloc hszW _).grown hgrow (by simp; omega) (fun j ej => (hrow.lt j ej).1)
      go_roundw
      case rel => exact ⟨j + 1, by omega, by go_num, by rw [HP.out]; go_num, by rw [HS.out, List.length_append, u8c_snoc]; exact hown', hB1⟩
      case measure => simp [intOf]; omega
    · obtain rfl : j = k := by omega
      have hcv := conv_row wr w.heap.size _ _ hrow
      have HB := Lib.hid hB
      clear hlt hrow hB hj hk8 hk
      go_wp2
      go_ret
      exact ⟨rfl, HB.out⟩

/-! ### sector 0 -/
theorem bsL_head (gen used : Nat) : fillB ((⟨#[78, 86]⟩ : ByteArray) ++ bsL (leN gen 6) ++ bsL (leN used 4)) = headB gen used := by
  apply ByteArray.ext
  apply Array.toList_inj.1
  simp [fillB, headB, headL, ByteArray.data_append, bsL, zeros, length_leN, ByteArray.size]
/-! ### how many sectors a half has -/
section
variable {b g m : Nat} {s : DS} {w w' : World}
def halfN (s : DS) : Nat := (s.stay.length - 1) / 2
end
end Go.Proofs.YtmloljjllmmkoaaGreat

namespace Go.Proofs.YtmloljjllmmkoaaGreat
open Go.RowKit Go Go.Maps SM

/-- what is left of a row of bytes -/
def Rest (v : Value) (L : List UInt8) (w : World) : Prop :=
  ∃ a cap, v = .slice a L.length cap ∧ L.length ≤ cap ∧ cap ≤ maxLen ∧ (L ≠ [] → ∃ g off C f, a = some ⟨g, off, none⟩ ∧ w.heap[g]? = some (.cells C 5 f) ∧ ∀ i (h : i < L.length), w.cell? ⟨g, off + i, none⟩ = some (.int .u8 L[i].toNat))
section
variable {v : Value} {L : List UInt8} {w w' : World}
theorem Rest.same (h : Rest v L w) (hb : ∀ (g : Nat) (C : Array Value) (f : Nat × Nat), w.heap[g]? = some (.cells C 5 f) → w'.heap[g]? = w.heap[g]?) : Rest v L w' := by
  obtain ⟨a, cap, h1, h2, h3, h4⟩ := h
  refine ⟨a, cap, h1, h2, h3, fun hne => ?_⟩
  obtain ⟨g, off, C, f, e, h5, h6⟩ := h4 hne
  exact ⟨g, off, C, f, e, (hb g C f h5).trans h5, fun i hi => (World.cell?_of_block (w := w) (hb g C f h5)).trans (h6 i hi)⟩
theorem Rest.below (h : Rest v L w) (hB : Below w.heap.size w w') : Rest v L w' :=
  h.same fun g _ _ hg => hB.block g (lt_of_heap hg)
theorem Rest.len (h : Rest v L w) : L.length ≤ maxLen := by
  obtain ⟨a, cap, _, h2, h3, _⟩ := h
  omega
end

theorem Rest.conv {v : Value} {L : List UInt8} {w : World} (h : Rest v L w) : (convert 85 9 v).run Tryz.prog w = .ok (.string (bsL L)) w := by
  obtain ⟨a, cap, rfl, h2, h3, h4⟩ := h
  by_cases hl : L = []
  · subst hl
    cases a with
    | none => exact run_convert_bytes_nil w 85 5 Tryz.underlying85 Tryz.underlying5 _ _ 9 Tryz.underlying9
    | some a => exact run_convert_bytes_back w 85 9 5 a cap [] Tryz.underlying85 Tryz.underlying5 Tryz.underlying9 (fun j hj => by simp at hj)
  · obtain ⟨g, off, _, _, rfl, hg, hc⟩ := h4 hl
    exact run_convert_bytes_back w 85 9 5 ⟨g, off, none⟩ cap L Tryz.underlying85 Tryz.underlying5 Tryz.underlying9 (fun j hj => by
      rw [Addr.add_lit, hc j hj])
/-- the box's block -/
def boxO (v : Value) : Obj := .cells #[v] 85 (0, 0)

theorem or64 {a b k : Nat} (ha : a < 2 ^ k) (hs : a + b * 2 ^ k < 9223372036854775808) : bits .or .i64 (a : Int) ((b * 2 ^ k : Nat) : Int) = ((a + b * 2 ^ k : Nat) : Int) := by
  have e : (BitVec.ofInt 64 (a : Int) ||| BitVec.ofInt 64 ((b * 2 ^ k : Nat) : Int)).toNat = a + b * 2 ^ k := by
    rw [BitVec.toNat_or, BitVec.toNat_ofInt, BitVec.toNat_ofInt]
    have h1 : ((a : Int) % ((2 ^ 64 : Nat) : Int)).toNat = a := by omega
    have h2 : (((b * 2 ^ k : Nat) : Int) % ((2 ^ 64 : Nat) : Int)).toNat = b * 2 ^ k := by omega
    rw [h1, h2, Nat.or_comm, Nat.mul_comm b, ← Nat.two_pow_add_eq_or_of_lt ha]
    omega
  show IntKind.i64.wrap ((BitVec.ofInt 64 (a : Int) ||| BitVec.ofInt 64 ((b * 2 ^ k : Nat) : Int)).toNat : Int) = _
  rw [e]
  exact wrapI _ (by omega) (by omega)
theorem valN_snoc : ∀ (l : List UInt8) (x : UInt8), valN (l ++ [x]) = valN l + x.toNat * 2 ^ (8 * l.length)
  | [], x => by simp [valN]
  | b :: r, x => by
    rw [List.cons_append, valN, valN, valN_snoc r x, List.length_cons, Nat.mul_add 8, Nat.pow_add, Nat.mul_add, show 2 ^ (8 * 1) = 256 by decide]
    have : 256 * (x.toNat * 2 ^ (8 * r.length)) = x.toNat * (2 ^ (8 * r.length) * 256) := by rw [Nat.mul_left_comm, Nat.mul_comm (2 ^ _)]
    omega
theorem valN_lt2 (l : List UInt8) : valN l < 2 ^ (8 * l.length) := by
  have := valN_lt l
  rwa [show 256 = 2 ^ 8 by decide, ← Nat.pow_mul] at this

theorem wrap_nat {n : Nat} (h : n < 9223372036854775808) : wrap64 (n : Int) = (n : Int) := by unfold wrap64; omega

set_option maxRecDepth 100000 in
set_option maxHeartbeats 1000000 in
theorem number_of (x : ByteArray) (hL : x.size ≤ 7) (w : World) :
    Calls Tryz.prog 99 #[.string x] w fun e w' => e = .returned (.int .i64 (valN x.data.toList)) ∧ w = w' := by
  have hl7 : (x.size : Int) ≤ 7 := by omega
  have hlx : x.data.toList.length = x.size := len_of x
  go_enter Tryz.func99, Tryz.ntmps99
  go_wp2
  go_loop [3, 7] (fun n i => ∃ j : Nat, j ≤ x.size ∧ i = .int .i64 j ∧ n = .int .i64 (valN (x.data.toList.take j))) (fun _ i => x.size - (intOf i).toNat)
  case atStart => exact ⟨0, Nat.zero_le _, rfl, rfl⟩
  case round =>
    obtain ⟨j, hj, rfl, rfl⟩ := hrel
    by_cases hlt : j < x.size
    · have hji : (j : Int) < (x.size : Int) := by omega
      have hlt' : j < x.data.toList.length := by omega
      have hlen : (x.data.toList.take j).length = j := by rw [List.length_take]; omega
      have hv := valN_snoc (x.data.toList.take j) x.data.toList[j]
      rw [hlen, ← List.take_succ_eq_append_getElem hlt'] at hv
      have hlt1 := valN_lt2 (x.data.toList.take j)
      rw [hlen] at hlt1
      have hlt2 := valN_lt2 (x.data.toList.take (j + 1))
      rw [show (x.data.toList.take (j + 1)).length = j + 1 by rw [List.length_take]; omega] at hlt2
      have hxj : x.data.toList[j] = x[j] := rfl
      rw [hxj] at hv
      have HV := Lib.hid hv
      have h56 : 2 ^ (8 * (j + 1)) ≤ 2 ^ 56 := Nat.pow_le_pow_right (by decide) (by omega)
      have hor := or64 (b := x[j].toNat) hlt1 (by rw [← hv]; omega)
      clear hlen hv hlt1 hlx hxj
      generalize hq : valN (x.data.toList.take (j + 1)) = q at hlt2 HV hor
      have HQ := Lib.hid hq.symm
      clear hq
      generalize valN (x.data.toList.take j) = p at *
      have hb8 : x[j].toNat < 256 := x[j].toNat_lt
      go_wp2
      go_roundw
      case rel =>
        refine ⟨j + 1, by omega, by go_num, ?_⟩
        generalize x[j].toNat = y at *
        have hb : y * 2 ^ (8 * j) ≤ q := by rw [HV.out]; omega
        rw [show (y : Int) * 2 ^ (8 * j) = ((y * 2 ^ (8 * j) : Nat) : Int) by rw [Int.natCast_mul, Int.natCast_pow]; rfl, wrap_nat (by omega), hor, ← HV.out, HQ.out]
      case measure => simp [intOf]; omega
    · obtain rfl : j = x.size := by omega
      rw [← hlx, List.take_length]
      go_wp2
      go_ret
      exact ⟨rfl, rfl⟩

/-! ### the closure -/
theorem sliced_rest {a : Option Addr} {L : List UInt8} {cap k : Nat} {w : World} (hk : k ≤ L.length) (h2 : L.length ≤ cap) (h3 : cap ≤ maxLen)
    (h4 : L ≠ [] → ∃ g off C f, a = some ⟨g, off, none⟩ ∧ w.heap[g]? = some (.cells C 5 f) ∧ ∀ i (h : i < L.length), w.cell? ⟨g, off + i, none⟩ = some (.int .u8 L[i].toNat)) :
    Rest (.slice a k cap) (L.take k) w ∧ Rest (.slice (if cap = k then a else a.map (·.add k)) (L.length - k) (cap - k)) (L.drop k) w := by
  refine ⟨⟨a, cap, by rw [List.length_take, Nat.min_eq_left hk], by rw [List.length_take]; omega, h3, fun hne => ?_⟩, ⟨_, cap - k, by rw [List.length_drop], by rw [List.length_drop]; omega, by omega, fun hne => ?_⟩⟩
  · obtain ⟨g, off, C, f, e, hg, hc⟩ := h4 (by rintro rfl; exact hne (by simp))
    exact ⟨g, off, C, f, e, hg, fun i hi => by
      rw [List.length_take] at hi
      rw [List.getElem_take]
      exact hc i (by omega)⟩
  · obtain ⟨g, off, C, f, e, hg, hc⟩ := h4 (by rintro rfl; exact hne (by simp))
    have hlt : k < L.length := by
      rcases Nat.lt_or_ge k L.length with h | h
      · exact h
      · exact absurd (List.drop_of_length_le h) hne
    refine ⟨g, off + k, C, f, ?_, hg, fun i hi => ?_⟩
    · rw [if_neg (by omega), e, Option.map_some, Addr.add_lit]
    · rw [List.length_drop] at hi
      rw [List.getElem_drop, ← hc (k + i) (by omega), Nat.add_assoc]

theorem clampMin (n N : Nat) : ∃ k : Nat, min (n : Int) (N : Int) = (k : Int) ∧ (if (N : Int) < (n : Int) then (N : Int) else (n : Int)) = (k : Int) ∧ (if (n : Int) < (N : Int) then (n : Int) else (N : Int)) = (k : Int) ∧ k = min n N :=
  ⟨min n N, by omega, by split <;> omega, by split <;> omega, rfl⟩
/-! ### what sector 0 says -/
def saidG (x : ByteArray) : Nat := valN ((x.data.toList.drop 2).take 6)
def saidU (x : ByteArray) : Nat := valN ((x.data.toList.drop 8).take 4)
def saidOk (x : ByteArray) : Bool := decide (saidG x ≤ 1099511627776) && (x.toList == (headB (saidG x) (saidU x)).toList)
theorem saidOk_is (x : ByteArray) : saidOk x = true ↔ saidG x ≤ 1099511627776 ∧ x = headB (saidG x) (saidU x) := by
  rw [saidOk, Bool.and_eq_true, decide_eq_true_eq, beq_iff_eq, ByteArray.toList_eq, ByteArray.toList_eq]
  exact and_congr_right fun _ => ⟨fun e => ByteArray.ext (Array.toList_inj.1 e), fun e => congrArg (fun b : ByteArray => b.data.toList) e⟩
theorem leN_le (l : List UInt8) (k : Nat) (h : l.length ≤ k) : valN l < 256 ^ k := Nat.lt_of_lt_of_le (valN_lt l) (Nat.pow_le_pow_right (by decide) h)
theorem saidG_le (x : ByteArray) : saidG x ≤ 281474976710655 := by
  have := leN_le ((x.data.toList.drop 2).take 6) 6 (by simp; omega)
  unfold saidG; omega
theorem saidU_le (x : ByteArray) : saidU x ≤ 4294967295 := by
  have := leN_le ((x.data.toList.drop 8).take 4) 4 (by simp; omega)
  unfold saidU; omega

end Go.Proofs.YtmloljjllmmkoaaGreat

namespace Go.Proofs.YtmloljjllmmkoaaGreat
open Go.RowKit Go Go.Maps SM

theorem readRecs_fuel : ∀ (f1 f2 : Nat) (l : List UInt8), l.length < f1 → l.length < f2 → readRecs f1 l = readRecs f2 l
  | 0, _, _, h, _ => by omega
  | _, 0, _, _, h => by omega
  | f1 + 1, f2 + 1, l, h1, h2 => by
    rw [readRecs, readRecs]
    by_cases h0 : l.length = 0
    · rw [if_pos h0, if_pos h0]
    · rw [if_neg h0, if_neg h0, readRecs_fuel f1 f2 (l.drop (2 + valN (l.take 2))) (by rw [List.length_drop]; omega) (by rw [List.length_drop]; omega)]
/-- what bytes are, as records -/
def recsOf (l : List UInt8) : Option (List ByteArray) := readRecs (l.length + 1) l
theorem recsOf_nil : recsOf [] = some [] := rfl
theorem recsOf_bad {l : List UInt8} (h : l.length ≠ 0) (h2 : l.length < 2 ∨ 1300 < valN (l.take 2) ∨ l.length - 2 < valN (l.take 2)) : recsOf l = none := by
  rw [recsOf, readRecs, if_neg h, if_pos h2]
theorem recsOf_more {l : List UInt8} (h : l.length ≠ 0) (h2 : ¬ (l.length < 2 ∨ 1300 < valN (l.take 2) ∨ l.length - 2 < valN (l.take 2))) :
    recsOf l = (recsOf (l.drop (2 + valN (l.take 2)))).map fun r => bsL ((l.drop 2).take (valN (l.take 2))) :: r := by
  rw [recsOf, readRecs, if_neg h, if_neg h2, readRecs_fuel l.length ((l.drop (2 + valN (l.take 2))).length + 1) _ (by rw [List.length_drop]; omega) (by omega)]
  rfl
theorem recsOf_recB {l : List ByteArray} (h : ∀ r ∈ l, r.size ≤ 1300) : recsOf (recB l) = some l := by
  have hb : ∀ l : List ByteArray, l.length ≤ (recB l).length := fun l => by
    induction l with
    | nil => simp
    | cons r l ih => rw [recB_cons, List.length_append, List.length_append, length_leN, List.length_cons]; omega
  exact read_recB l _ (by have := hb l; omega) h
theorem recsOf_is {b : List UInt8} {l : List ByteArray} (h : recsOf b = some l) : recB l = b ∧ ∀ r ∈ l, r.size ≤ 1300 := recB_read _ _ _ h

theorem infoStr' : (Tryz.prog.info? 9).map (fun i => (i.zero, i.size, i.bytes)) = some (some (.string ⟨#[]⟩), 1, 16) := by kernel_rfl
theorem strVals_snoc (l : List ByteArray) (x : ByteArray) : strVals (l ++ [x]) = strVals l ++ [.string x] := by simp [strVals]
theorem Rest.shape {v : Value} {L : List UInt8} {w : World} (h : Rest v L w) : ∃ a n c, v = .slice a n c ∧ n = L.length := by
  obtain ⟨a, c, e, _⟩ := h
  exact ⟨a, _, c, e, rfl⟩
/-- what split answers -/
def SplitV (base : Nat) (b : List UInt8) (v : Value) (W : World) : Prop :=
  match recsOf b with
  | none => v = .tuple #[.slice none 0 0, .bool false]
  | some l => ∃ u, v = .tuple #[u, .bool true] ∧ W.ownsRow base 9 1 u l.length (strVals l)

end Go.Proofs.YtmloljjllmmkoaaGreat

namespace Go.Proofs.YtmloljjllmmkoaaGreat
open Go.RowKit Go Go.Maps SM

theorem made_write' (s : DS) (n : Int) (x : ByteArray) : (s.write n x).made ≤ s.made + 1 := by
  unfold DS.write
  split
  · split <;> simp [DS.lays, DS.tick, DS.goes]
  · omega
theorem made_sync' (s : DS) : s.sync.made ≤ s.made + 1 := by
  unfold DS.sync
  split
  · omega
  · split <;> simp [DS.tick, DS.goes, DS.settled]
theorem len_write (s : DS) (n : Int) (x : ByteArray) : (s.write n x).stay.length = s.stay.length := by
  unfold DS.write
  split
  · split <;> simp [DS.lays, DS.tick, DS.goes, length_laid]
  · rfl
theorem len_sync (s : DS) : s.sync.stay.length = s.stay.length := by
  unfold DS.sync
  split
  · rfl
  · split <;> simp [DS.tick, DS.goes, DS.settled, length_laid]

section
variable {l b gen : Nat} {v : Value} {dead : Bool} {w : World}
end
def LFoot (l b g m : Nat) (v : Value) : Nat → Prop := fun k => k = l ∨ Foot b g m k ∨ v.ownBlock = some k
section
variable {base l b g m gen : Nat} {v : Value} {B : List UInt8} {dead : Bool} {s : DS} {w w' : World}
end
end Go.Proofs.YtmloljjllmmkoaaGreat

namespace Go.Proofs.YtmloljjllmmkoaaGreat
open Go.RowKit Go Go.Maps SM

section
variable {base l b g m gen : Nat} {v : Value} {B : List UInt8} {dead : Bool} {s : DS} {w w' : World}
theorem DiskAt.drew (h : DiskAt b g m s w) : DiskAt b g m s w.drew := h.stay ((Stir.refl (fun _ => False) w).drew) (fun _ _ h => h)
end
end Go.Proofs.YtmloljjllmmkoaaGreat

