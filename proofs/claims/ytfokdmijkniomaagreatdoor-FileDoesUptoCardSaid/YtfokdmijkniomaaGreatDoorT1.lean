/-
  TabO / WirL / WirG / WirC / WirD / WirE / WirF / WirI.
-/
import Derived.Test.YtfokdmijkniomaaGreatDoorM1
import Derived.Test.YtfokdmijkniomaaGreatDoorKS
import Derived.Test.YtfokdmijkniomaaGreatDoorKW
import Derived.Lib.SmallJoins
import Derived.IntWalk
import Derived.Laws.MakeOwn
import Derived.Laws.OwnMore
import Derived.OwnWalk
import Derived.Maps.AppendAt
import Derived.Lib.Strings
import Derived.RangeFuncBox
import Derived.Laws.BytesArg
import Derived.Deep.QuietTactic
import Derived.BigRegion
import Derived.BigQuiet
import Derived.Deep.Draws
import Derived.SizedLaws
import Derived.Lib.Walk
import Derived.Lib.BufferWrite
import Derived.Lib.UnsafeStr
namespace Go.Proofs.YtfokdmijkniomaaGreatDoor
open Go.ChangeShapes Go.WideShapes Go.ChangeAt Go.RowKit Go

/-! ### Things as values, and in cells -/
def entV (x : Ent) : Value := .agg #[.string x.name, .int .i64 x.num]
def entC (x : Ent) : List Value := [.string x.name, .int .i64 x.num]
/-- a list of things, each of k cells, at a world -/
def LstAt {T : Type} (f : T → List Value) (k : Nat) (W : World) (v : Value) (l : List T) : Prop :=
  ∃ a cap, v = .slice a l.length cap ∧ (l ≠ [] → ∃ b off, a = some ⟨b, off, none⟩ ∧ b < W.heap.size ∧ ∀ j (_ : j < l.length) (i : Nat) (_ : i < k), W.cell? ⟨b, off + j * k + i, none⟩ = (f l[j])[i]?)
theorem LstAt.same {T : Type} {f : T → List Value} {k : Nat} {W W' : World} {v : Value} {l : List T} (h : LstAt f k W v l) (hs : W.heap.size ≤ W'.heap.size) (hB : ∀ b off cap, v = .slice (some ⟨b, off, none⟩) l.length cap → b < W.heap.size → W'.heap[b]? = W.heap[b]?) : LstAt f k W' v l := by
  obtain ⟨a, cap, h1, h2⟩ := h
  refine ⟨a, cap, h1, fun hne => ?_⟩
  obtain ⟨b, off, e, hb, hc⟩ := h2 hne
  subst e
  refine ⟨b, off, rfl, Nat.lt_of_lt_of_le hb hs, fun j hj i hi => ?_⟩
  rw [World.cell?_of_block (w := W) (hB b off cap h1 hb)]
  exact hc j hj i hi
theorem LstAt.later {T : Type} {f : T → List Value} {k : Nat} {W W' : World} {v : Value} {l : List T} (h : LstAt f k W v l) (hB : Below W.heap.size W W') : LstAt f k W' v l :=
  h.same hB.size fun b _ _ _ hb => hB.block b hb
/-! ### As arguments -/
section
variable {H : Type} {enc : TypeId × Value → H} {W : World} {base : Nat} {v : Value} {d : DataW H} {p : List MemPlace}
end
end Go.Proofs.YtfokdmijkniomaaGreatDoor

namespace Go.Proofs.YtfokdmijkniomaaGreatDoor.WT
open Go.RowKit Go

theorem info5 : (Tryz.prog.info? 5).map (fun i => (i.zero, i.size, i.bytes)) = some (some (.int .u8 0), 1, 1) := by kernel_rfl
def u8s (l : List UInt8) : List Value := l.map fun b => Value.int .u8 b.toNat
theorem u8s_snoc (l : List UInt8) (x : UInt8) : u8s (l ++ [x]) = u8s l ++ [.int .u8 x.toNat] := by simp [u8s]

/-- a slice of numbers, at a world -/
def IntsAt (W : World) (v : Value) (zs : List Int) : Prop :=
  ∃ a cap, v = .slice a zs.length cap ∧ (zs ≠ [] → ∃ b off, a = some ⟨b, off, none⟩ ∧ b < W.heap.size ∧ ∀ j (h : j < zs.length), W.cell? ⟨b, off + j, none⟩ = some (.int .i64 zs[j]))
theorem IntsAt.split {W : World} {v : Value} {zs : List Int} (h : IntsAt W v zs) : ∃ a cap, v = .slice a zs.length cap ∧ (zs ≠ [] → ∃ b off, a = some ⟨b, off, none⟩ ∧ b < W.heap.size ∧ ∀ j (h : j < zs.length), W.cell? ⟨b, off + j, none⟩ = some (.int .i64 zs[j])) := h
theorem IntsAt.empty {W : World} {v : Value} {a : Option Addr} {cap : Nat} (h : v = .slice a 0 cap) : IntsAt W v [] := ⟨a, cap, h, fun e => absurd rfl e⟩
theorem IntsAt.at {W : World} {v : Value} {zs : List Int} (b off cap : Nat) (h : v = .slice (some ⟨b, off, none⟩) zs.length cap) (hb : b < W.heap.size) (hc : ∀ j (h : j < zs.length), W.cell? ⟨b, off + j, none⟩ = some (.int .i64 zs[j])) : IntsAt W v zs :=
  ⟨_, cap, h, fun _ => ⟨b, off, rfl, hb, hc⟩⟩
theorem IntsAt.same {W W' : World} {v : Value} {zs : List Int} (h : IntsAt W v zs) (hs : W.heap.size ≤ W'.heap.size) (hB : ∀ b off cap, v = .slice (some ⟨b, off, none⟩) zs.length cap → b < W.heap.size → W'.heap[b]? = W.heap[b]?) : IntsAt W' v zs := by
  obtain ⟨a, cap, h1, h2⟩ := h
  refine ⟨a, cap, h1, fun hne => ?_⟩
  obtain ⟨b, off, e, hb, hc⟩ := h2 hne
  subst e
  exact ⟨b, off, rfl, Nat.lt_of_lt_of_le hb hs, fun j hj => (World.cell?_of_block (w := W) (hB b off cap h1 hb)).trans (hc j hj)⟩
theorem IntsAt.later {W W' : World} {v : Value} {zs : List Int} (h : IntsAt W v zs) (hB : Below W.heap.size W W') : IntsAt W' v zs :=
  h.same hB.size fun b _ _ _ hb => hB.block b hb

/-- bytes of a row of the call's own, as a text -/
theorem row_cells {W : World} {base : Nat} {e : TypeId} {v : Value} {n : Nat} {xs : List Value} (h : W.ownsRow base e 1 v n xs) (hv : v ≠ .slice none 0 0) :
    ∃ g cap, v = .slice (some ⟨g, 0, none⟩) n cap ∧ base ≤ g ∧ g < W.heap.size ∧ n ≤ cap ∧ cap ≤ maxLen ∧ ∀ (i : Nat) u, xs[i]? = some u → W.cell? ⟨g, i, none⟩ = some u := by
  rcases h.2 with ⟨e, _⟩ | ⟨g, cap, cur, h1, h2, h3, h4, h5, h6, h7⟩
  · exact absurd e hv
  · refine ⟨g, cap, h1, h2, (Array.getElem?_eq_some_iff.1 h3).1, h4, h5, fun i u hu => ?_⟩
    have hi : i < n := by
      have := (List.getElem?_eq_some_iff.1 hu).1
      have := h.1
      omega
    rw [← h7, List.getElem?_take_of_lt (by omega)] at hu
    simp only [World.cell?, h3]
    simpa using hu
theorem conv_own (W : World) (base : Nat) (v : Value) (l : List UInt8) (h : W.ownsRow base 5 1 v l.length (u8s l)) :
    (convert 130 9 v).run Tryz.prog W = .ok (.string (bs l)) W := by
  by_cases hv : v = .slice none 0 0
  · have hl : l.length = 0 := by
      rcases h.2 with ⟨_, e⟩ | ⟨g, cap, cur, h1, _⟩
      · exact e
      · rw [hv] at h1; cases h1
    obtain rfl : l = [] := List.eq_nil_of_length_eq_zero hl
    subst hv
    exact run_convert_bytes_nil W 130 5 Tryz.underlying130 Tryz.underlying5 0 0 9 Tryz.underlying9
  · obtain ⟨g, cap, rfl, _, _, _, _, hc⟩ := row_cells h hv
    exact run_convert_bytes_back W 130 9 5 ⟨g, 0, none⟩ cap l Tryz.underlying130 Tryz.underlying5 Tryz.underlying9 (fun j hj => by
      rw [Addr.add_lit, Nat.zero_add, hc j (.int .u8 (l[j].toNat : Nat)) (by simp [u8s, hj])])
theorem byte_low (n : Nat) (h : n < 128) : IntKind.u8.wrap (n : Int) = ((UInt8.ofNat n).toNat : Int) := by
  rw [toNat_small (by omega)]
  show (n : Int) % 256 = _
  omega
theorem byte_high (n : Nat) : IntKind.u8.wrap ((n : Int).tmod 128 + 128) = ((UInt8.ofNat (n % 128 + 128)).toNat : Int) := by
  rw [toNat_small (by omega), Int.tmod_eq_emod_of_nonneg (by omega)]
  show ((n : Int) % 128 + 128) % 256 = _
  omega

set_option maxRecDepth 100000 in
set_option maxHeartbeats 4000000 in
theorem lay_any (v : Value) (ns : List Nat) (hn : ns.length ≤ 1048576) (hm : ∀ n ∈ ns, n ≤ 9223372036854775807) (w : World) (h : IntsAt w v (ns.map fun n : Nat => (n : Int))) :
    Calls Tryz.prog 184 #[v] w fun e w' => e = .returned (.string (bs (layL ns))) ∧ Below w.heap.size w w' := by
  obtain ⟨a, cap, rfl, ha0⟩ := h.split
  have ha : ∀ k, k < ns.length → ∃ b off, a = some ⟨b, off, none⟩ ∧ b < w.heap.size ∧ ∀ j (h : j < ns.length), w.cell? ⟨b, off + j, none⟩ = some (.int .i64 (ns[j] : Int)) := by
    intro k hk
    obtain ⟨b, off, e1, e2, e3⟩ := ha0 (by intro e; have := congrArg List.length e; simp at this; rw [this] at hk; exact absurd hk (by simp))
    exact ⟨b, off, e1, e2, fun j hj => by rw [e3 j (by simpa using hj)]; simp⟩
  clear ha0
  rw [List.length_map]
  obtain ⟨i0, hi, hz0, hz1, hz2⟩ := info_parts info5
  have HA := Lib.hid ha
  have HMx := Lib.hid hm
  clear h ha hm
  go_enter Tryz.func184, Tryz.ntmps184
  go_wp2
  go_loopw [3, 8] (fun v i wr => ∃ k : Nat, k ≤ ns.length ∧ i = .int .i64 k ∧ wr.ownsRow w.heap.size 5 1 v (layL (ns.take k)).length (u8s (layL (ns.take k))) ∧ Below w.heap.size w wr) (fun _ i _ => ns.length - (intOf i).toNat)
  case atStart => exact ⟨0, Nat.zero_le _, rfl, by rw [List.take_zero]; exact World.ownsRow_nil _ _ _ _, Below.refl _ _⟩
  case round =>
    obtain ⟨k, hk, rfl, hrow, hB⟩ := hrel
    have HR := Lib.hid hrow
    have HB := Lib.hid hB
    clear hrow hB
    by_cases hlt : k < ns.length
    · obtain ⟨b, off, rfl, hb, hc⟩ := HA.out k hlt
      have hcell : wr.cell? ⟨b, off + k, none⟩ = some (.int .i64 (ns[k] : Int)) := (HB.out.cell (p := ⟨b, off + k, none⟩) hb).trans (hc k hlt)
      have hlt' : (k : Int) < (ns.length : Int) := by omega
      have hmx := HMx.out ns[k] (List.getElem_mem hlt)
      have hlen := layL_len (ns.take k) (fun n hn => HMx.out n (List.mem_of_mem_take hn))
      rw [List.length_take] at hlen
      have HN := Lib.hid (show layL (ns.take (k + 1)) = layL (ns.take k) ++ dg ns[k] by rw [List.take_succ_eq_append_getElem hlt, layL_snoc])
      have HL := Lib.hid hlen
      generalize ns[k] = n at *
      generalize layL (ns.take k) = l0 at *
      obtain ⟨wo, rfl⟩ : ∃ wo : World, wo = wr := ⟨_, rfl⟩
      clear hc
      go_wp2
      go_loopw [3, 5] (fun v i wr => ∃ (m : Nat) (l : List UInt8), i = .int .i64 m ∧ m ≤ n ∧ l ++ dg m = l0 ++ dg n ∧ wr.ownsRow w.heap.size 5 1 v l.length (u8s l) ∧ Below w.heap.size w wr) (fun _ i _ => (intOf i).toNat)
      case atStart => exact ⟨n, l0, rfl, Nat.le_refl _, rfl, HR.out, HB.out⟩
      case round =>
        clear HR HB hcell
        obtain ⟨m, l, rfl, hmn, heq, hrow, hB⟩ := hrel
        have hll := congrArg List.length heq
        have hd9 := dg_9 (n := n) hmx
        have hd1 := dg_pos m
        rw [List.length_append, List.length_append] at hll
        have hl : l.length ≤ 9 * ns.length + 9 := by omega
        have hszW : w.heap.size ≤ wr.heap.size := hB.size
        by_cases hlow : m < 128
        · have HE := Lib.hid (show l0 ++ dg n = l ++ [UInt8.ofNat m] by rw [← heq, dg_lt hlow])
          have hbl := byte_low m hlow
          generalize UInt8.ofNat m = x at HE hbl
          have hlow' : ¬ (128 : Int) ≤ (m : Int) := by omega
          clear heq hll hd9 hd1
          go_wp2_with (at_builtin; refine wpList_append_own _ rfl _ _ 130 rfl w.heap.size 5 i0 (.int .u8 0) 1 1 Tryz.underlying130 hi hz0 hz1 hz2 rfl (by decide) _ _ _ rfl (hrow.alloc _) ⟨wr.heap.size, 0, none⟩ 1 1 [.int .u8 x.toNat] rfl rfl (cell_one_new _ _ _) (by simp [Value.oneCell']) (by unfold maxLen; omega) (by omega) (by simp; omega) ?_; intro v' w1 hown' hgrow _)
          have hB1 : Below w.heap.size w w1 := (hB.alloc hszW _).grown hgrow (by simp; omega) (fun j ej => (hrow.lt j ej).1)
          go_roundw
          case rel => exact ⟨k + 1, by omega, by go_num, by rw [HN.out, HE.out, List.length_append, u8s_snoc]; exact hown', hB1⟩
          case measure => simp [intOf]; omega
        · have hbh := byte_high m
          have hbh2 : IntKind.u8.wrap ((m : Int) % 128 + 128) = ((UInt8.ofNat (m % 128 + 128)).toNat : Int) := by rw [← Int.tmod_eq_emod_of_nonneg (by omega)]; exact hbh
          have hq1 : (m : Int).tdiv 128 = ((m / 128 : Nat) : Int) := by rw [Int.tdiv_eq_ediv_of_nonneg (by omega)]; omega
          have hq2 : (m : Int) / 128 = ((m / 128 : Nat) : Int) := by omega
          have HE := Lib.hid (show (l ++ [UInt8.ofNat (m % 128 + 128)]) ++ dg (m / 128) = l0 ++ dg n by rw [← heq, dg_ge hlow, List.append_assoc, List.singleton_append])
          have hq3 : m / 128 < m := by omega
          generalize UInt8.ofNat (m % 128 + 128) = x at *
          generalize m / 128 = q at *
          have hlow' : (128 : Int) ≤ (m : Int) := by omega
          clear heq hll hd9 hd1
          go_wp2_with (at_builtin; refine wpList_append_own _ rfl _ _ 130 rfl w.heap.size 5 i0 (.int .u8 0) 1 1 Tryz.underlying130 hi hz0 hz1 hz2 rfl (by decide) _ _ _ rfl (hrow.alloc _) ⟨wr.heap.size, 0, none⟩ 1 1 [.int .u8 x.toNat] rfl rfl (cell_one_new _ _ _) (by simp [Value.oneCell']) (by unfold maxLen; omega) (by omega) (by simp; omega) ?_; intro v' w1 hown' hgrow _)
          have hB1 : Below w.heap.size w w1 := (hB.alloc hszW _).grown hgrow (by simp; omega) (fun j ej => (hrow.lt j ej).1)
          go_roundw
          case rel => exact ⟨q, l ++ [x], rfl, by omega, HE.out, by rw [List.length_append, u8s_snoc]; exact hown', hB1⟩
          case measure => simp [intOf]; omega
    · obtain rfl : k = ns.length := by omega
      have hrow := HR.out
      rw [List.take_length] at hrow
      have hcv := conv_own wr w.heap.size _ _ hrow
      have hB := HB.out
      clear hlt hrow HR HB
      go_wp2
      go_ret
      exact ⟨rfl, hB⟩
end Go.Proofs.YtfokdmijkniomaaGreatDoor.WT

namespace Go.Proofs.YtfokdmijkniomaaGreatDoor.WT
open Go.RowKit Go

/-- a number that has no bytes -/
def bad (n : Int) : Bool := decide (n < 0) || decide (4611686018427387903 < n)
theorem isNone_any (n : Int) (w : World) :
    Calls Tryz.prog 183 #[.int .i64 n] w fun v w' => v = .returned (.bool (bad n)) ∧ w = w' := by
  by_cases h : n < 0
  · have HX := Lib.hid (show bad n = true by simp [bad, h])
    go_enter Tryz.func183, Tryz.ntmps183
    go_wp2
    go_ret
    exact ⟨by rw [HX.out]; rfl, rfl⟩
  · have HX := Lib.hid (show bad n = decide (4611686018427387903 < n) by simp [bad, h])
    go_enter Tryz.func183, Tryz.ntmps183
    go_wp2
    go_ret
    exact ⟨by rw [HX.out]; rfl, rfl⟩
theorem good_of {n : Int} (h : bad n = false) : 0 ≤ n ∧ n ≤ 4611686018427387903 := by
  simp [bad] at h; omega
def numW (n : Int) : Value := if bad n then .tuple #[.string ⟨#[]⟩, .int .i64 31] else .tuple #[.string (bs (dg n.toNat)), .int .i64 0]
def textW (l : List UInt8) : Value := if l.length ≤ 65536 then .tuple #[.string (bs (dg l.length ++ l)), .int .i64 0] else .tuple #[.string ⟨#[]⟩, .int .i64 31]
theorem ints_one (w : World) (n : Nat) (t : TypeId) : IntsAt (w.alloc (.cells #[.int .i64 (n : Int)] t)) (.slice (some ⟨w.heap.size, 0, none⟩) 1 1) ([n].map fun n : Nat => (n : Int)) := by
  refine IntsAt.at w.heap.size 0 1 rfl (by simp) fun j hj => ?_
  obtain rfl : j = 0 := by simpa using hj
  simp

theorem lay_one (n : Nat) (hn : n ≤ 9223372036854775807) (w : World) (t : TypeId) :
    Calls Tryz.prog 184 #[.slice (some ⟨w.heap.size, 0, none⟩) 1 1] (w.alloc (.cells #[.int .i64 (n : Int)] t)) fun e w' => e = .returned (.string (bs (dg n))) ∧ Below w.heap.size w w' := by
  refine (lay_any _ [n] (by simp) (by simpa using hn) _ (ints_one w n t)).mono ?_
  rintro e w' ⟨rfl, hB⟩
  rw [layL_one]
  exact ⟨rfl, ((Below.refl _ w).alloc (Nat.le_refl _) _).trans (hB.mono (by simp))⟩

set_option maxRecDepth 100000 in
theorem wnum_any (n : Int) (w : World) :
    Calls Tryz.prog 162 #[.int .i64 n] w fun e w' => e = .returned (numW n) ∧ Below w.heap.size w w' := by
  unfold numW
  cases hb : bad n with
  | true =>
    have C := fun w => isNone_any n w
    rw [hb] at C
    go_enter Tryz.func162, Tryz.ntmps162
    go_wp2_with fail
    refine (C _).mono ?_
    rintro e w' ⟨rfl, rfl⟩
    go_wp2
    go_ret2
    exact ⟨rfl, Below.refl _ _⟩
  | false =>
    have C := fun w => isNone_any n w
    obtain ⟨h1, h2⟩ := good_of hb
    rw [hb] at C
    obtain ⟨m, rfl⟩ := Int.eq_ofNat_of_zero_le h1
    have C2 := fun w => lay_one m (by omega) w 3
    clear hb h1 h2
    go_enter Tryz.func162, Tryz.ntmps162
    go_wp2_with fail
    refine (C _).mono ?_
    rintro e w' ⟨rfl, rfl⟩
    go_wp2_with fail
    refine (C2 _).mono ?_
    rintro e w' ⟨rfl, hB⟩
    go_wp2
    go_ret2
    exact ⟨rfl, hB⟩

set_option maxRecDepth 100000 in
theorem wtext_any (s : ByteArray) (hs : s.size ≤ 281474976710656) (w : World) :
    Calls Tryz.prog 163 #[.string s] w fun e w' => e = .returned (textW s.data.toList) ∧ Below w.heap.size w w' := by
  unfold textW
  have hl : s.data.toList.length = s.size := by simp
  rw [hl]
  clear hl
  by_cases h : s.size ≤ 65536
  · rw [if_pos h]
    have h1 : (s.size : Int) ≤ 65536 := by omega
    have C2 := fun w => lay_one s.size (by omega) w 3
    have HE := Lib.hid (show bs (dg s.size ++ s.data.toList) = bs (dg s.size) ++ s by rw [bs_append]; rfl)
    have hd := dg_9 (n := s.size) (by omega)
    have hbz : (bs (dg s.size)).size ≤ 9 := by rw [bs_size]; exact hd
    generalize dg s.size = d at *
    have nsum : ¬ 9223372036854775807 < (bs d).size + s.size := by omega
    clear hd
    generalize bs d = D at *
    go_enter Tryz.func163, Tryz.ntmps163
    go_wp2_with fail
    refine (C2 _).mono ?_
    rintro e w' ⟨rfl, hB⟩
    go_wp2
    go_ret2
    exact ⟨by rw [HE.out]; rfl, hB⟩
  · rw [if_neg h]
    have h1 : (65536 : Int) < (s.size : Int) := by omega
    clear h
    go_enter Tryz.func163, Tryz.ntmps163
    go_wp2
    go_ret2
    exact ⟨rfl, Below.refl _ _⟩

end Go.Proofs.YtfokdmijkniomaaGreatDoor.WT

namespace Go.Proofs.YtfokdmijkniomaaGreatDoor.WT
open Go.RowKit Go

def firstV : Res → Value
  | .fin => .tuple #[.int .i64 0, .int .i64 0, flt 32]
  | .form => .tuple #[.int .i64 0, .int .i64 0, flt 30]
  | .num n z => .tuple #[.int .i64 n, .int .i64 z, .nilIface]

theorem shl7 (x : UInt8) (k : Nat) (hk : k ≤ 8) : IntKind.i64.wrap (((x.toNat : Int) % 128) * 2 ^ (7 * k)) = ((x.toNat % 128 * 128 ^ k : Nat) : Int) := by
  have h1 := pow7_le k hk
  have h2 : x.toNat % 128 * 128 ^ k ≤ 127 * 72057594037927936 := Nat.mul_le_mul (by omega) h1
  have e : ((x.toNat : Int) % 128) * 2 ^ (7 * k) = ((x.toNat % 128 * 128 ^ k : Nat) : Int) := by
    rw [pow7, Int.natCast_mul, Int.natCast_emod, Int.natCast_pow]; rfl
  rw [e]
  exact wrap64 _ (by omega) (by omega)

set_option maxRecDepth 100000 in
set_option maxHeartbeats 2000000 in
theorem first_any (s : ByteArray) (hs : s.size ≤ 281474976710656) (w : World) :
    Calls Tryz.prog 185 #[.string s] w fun e w' => e = .returned (firstV (scan s.data.toList)) ∧ Below w.heap.size w w' := by
  go_enter Tryz.func185, Tryz.ntmps185
  go_wp2
  go_loopw [2, 8] (fun n i wr => ∃ k m : Nat, k ≤ s.size ∧ k ≤ 9 ∧ i = .int .i64 k ∧ n = .int .i64 m ∧ m < 128 ^ k ∧ scan s.data.toList = scanAt k m (s.data.toList.drop k) ∧ Below w.heap.size w wr) (fun _ i _ => s.size - (intOf i).toNat)
  case atStart => exact ⟨0, 0, Nat.zero_le _, by omega, rfl, rfl, by decide, rfl, Below.refl _ _⟩
  case round =>
    obtain ⟨k, m, hk, hk9, rfl, rfl, hm, hsc, hB⟩ := hrel
    have HS := Lib.hid hsc
    have HB := Lib.hid hB
    clear hsc hB
    by_cases hlt : k < s.size
    · have hl : k < s.data.toList.length := by simpa using hlt
      have hd : s.data.toList.drop k = s[k] :: s.data.toList.drop (k + 1) := List.drop_eq_getElem_cons hl
      have HD := Lib.hid hd
      have hlt' : (k : Int) < (s.size : Int) := by omega
      clear hd
      have hc := Lib.hid (show scanAt k m (s.data.toList.drop k) = if k = 9 ∨ k > 0 ∧ s[k] = 0 then .form else if s[k].toNat < 128 then .num (m + s[k].toNat * 128 ^ k) (k + 1) else scanAt (k + 1) (m + (s[k].toNat % 128) * 128 ^ k) (s.data.toList.drop (k + 1)) by rw [HD.out]; rfl)
      by_cases h9 : k = 9
      · have HF := Lib.hid (show firstV (scan s.data.toList) = firstV .form by rw [HS.out, hc.out, if_pos (Or.inl h9)])
        have e9 : ((k : Int) == 9) = true := by simp; omega
        clear hc HD
        go_wp2
        go_ret3
        exact ⟨by rw [HF.out]; rfl, HB.out⟩
      · have e9 : ((k : Int) == 9) = false := by simp; omega
        have hk8 : k ≤ 8 := by omega
        have hg : k > 0 ∧ s[k] = 0 ∨ ¬ (k > 0 ∧ s[k] = 0) := Classical.em _
        rcases hg with hg | hg
        · have HF := Lib.hid (show firstV (scan s.data.toList) = firstV .form by rw [HS.out, hc.out, if_pos (Or.inr hg)])
          have k0 : (0 : Int) < (k : Int) := by omega
          have x0 : ((s[k].toNat : Int) == 0) = true := by rw [hg.2]; rfl
          clear hc HD hg h9
          go_wp2
          go_ret3
          exact ⟨by rw [HF.out]; rfl, HB.out⟩
        · have hn : ¬ (k = 9 ∨ k > 0 ∧ s[k] = 0) := fun h => h.elim h9 hg
          have hc2 := hc.out
          rw [if_neg hn] at hc2
          have HC := Lib.hid hc2
          have hsh := shl7 s[k] k hk8
          obtain ⟨q, hq⟩ : ∃ q, m + s[k].toNat % 128 * 128 ^ k = q := ⟨_, rfl⟩
          have hdi : bits .or .i64 (m : Int) ((s[k].toNat : Int) % 128 * 128 ^ k) = (q : Int) := by
            rw [← hq, ← digit_in m (s[k].toNat % 128) k hm (Nat.mod_lt _ (by decide)) hk8]
            congr 1
          have hkk : (7 * (k : Int)).toNat = 7 * k := by omega
          have h7a : (0 : Int) ≤ 7 * (k : Int) := by omega
          have h7b : 7 * (k : Int) ≤ 64 := by omega
          have hxl := s[k].toNat_lt
          have hcut : (¬ (0 : Int) < (k : Int)) ∨ ((0 : Int) < (k : Int) ∧ (((s[k].toNat : Int) == 0) = false)) := by
            by_cases h0 : k = 0
            · exact Or.inl (by omega)
            · refine Or.inr ⟨by omega, ?_⟩
              have : s[k] ≠ 0 := fun e => hg ⟨by omega, e⟩
              have h1 : s[k].toNat ≠ 0 := fun e => this (by rw [← ofNat_self s[k], e]; rfl)
              simp; omega
          clear hc hc2 HD hg hn h9
          by_cases hx : s[k].toNat < 128
          · have HF := Lib.hid (show firstV (scan s.data.toList) = firstV (.num q (k + 1)) by rw [HS.out, HC.out, if_pos hx, ← hq, Nat.mod_eq_of_lt hx])
            have hxi : (s[k].toNat : Int) < 128 := by omega
            clear HC hx hq
            rcases hcut with k0 | ⟨k0, x0⟩
            · go_wp2
              go_ret3
              exact ⟨by rw [HF.out]; rfl, HB.out⟩
            · go_wp2
              go_ret3
              exact ⟨by rw [HF.out]; rfl, HB.out⟩
          · have hxi : ¬ (s[k].toNat : Int) < 128 := by omega
            have HN := Lib.hid (show scan s.data.toList = scanAt (k + 1) q (s.data.toList.drop (k + 1)) by rw [HS.out, HC.out, if_neg hx, hq])
            have HM := Lib.hid (show q < 128 ^ (k + 1) by
              rw [Nat.pow_succ, ← hq]
              have : s[k].toNat % 128 * 128 ^ k ≤ 127 * 128 ^ k := Nat.mul_le_mul_right _ (by omega)
              omega)
            clear HC hx hq
            rcases hcut with k0 | ⟨k0, x0⟩
            · go_wp2
              go_roundw
              case rel => exact ⟨k + 1, q, by omega, by omega, by go_num, rfl, HM.out, HN.out, HB.out⟩
              case measure => simp [intOf]; omega
            · go_wp2
              go_roundw
              case rel => exact ⟨k + 1, q, by omega, by omega, by go_num, rfl, HM.out, HN.out, HB.out⟩
              case measure => simp [intOf]; omega
    · obtain rfl : k = s.size := by omega
      have HF := Lib.hid (show firstV (scan s.data.toList) = firstV .fin by
        rw [HS.out, List.drop_of_length_le (by simp)]; rfl)
      go_wp2
      go_ret3
      exact ⟨by rw [HF.out]; rfl, HB.out⟩
end Go.Proofs.YtfokdmijkniomaaGreatDoor.WT

namespace Go.Proofs.YtfokdmijkniomaaGreatDoor.WT
open Go.RowKit Go

/-- block b holds o now; the other blocks that were there are as they were -/
structure Moved (b : Nat) (o : Obj) (w w' : World) : Prop where
  os : w'.os = w.os
  tape : w'.tape = w.tape
  output : w'.output = w.output
  size : w.heap.size ≤ w'.heap.size
  here : w'.heap[b]? = some o
  block : ∀ k, k < w.heap.size → k ≠ b → w'.heap[k]? = w.heap[k]?

theorem Moved.refl {b : Nat} {o : Obj} {w : World} (h : w.heap[b]? = some o) : Moved b o w w := ⟨rfl, rfl, rfl, Nat.le_refl _, h, fun _ _ _ => rfl⟩
theorem Moved.trans {b : Nat} {o o' : Obj} {w v u : World} (h : Moved b o w v) (k : Moved b o' v u) : Moved b o' w u :=
  ⟨k.os.trans h.os, k.tape.trans h.tape, k.output.trans h.output, Nat.le_trans h.size k.size, k.here, fun i hi hb => (k.block i (Nat.lt_of_lt_of_le hi h.size) hb).trans (h.block i hi hb)⟩
theorem Moved.drew {b : Nat} {o : Obj} {w v : World} (h : Moved b o w v) : Moved b o w v.drew := ⟨h.os, h.tape, h.output, h.size, h.here, h.block⟩
theorem Moved.drewN {b n : Nat} {o : Obj} {w v : World} (h : Moved b o w v) : Moved b o w (v.drewN n) := ⟨h.os, h.tape, h.output, h.size, h.here, h.block⟩
theorem Moved.and {b : Nat} {o : Obj} {w v u : World} (h : Moved b o w v) (k : Below v.heap.size v u) : Moved b o w u :=
  ⟨k.os.trans h.os, k.tape.trans h.tape, k.output.trans h.output, Nat.le_trans h.size k.size, (k.block b (lt_of_heap h.here)).trans h.here, fun i hi hb => (k.block i (Nat.lt_of_lt_of_le hi h.size)).trans (h.block i hi hb)⟩
theorem Moved.set {b i : Nat} {C : Array Value} {t : TypeId} {f : Nat × Nat} {w v : World} (h : Moved b (.cells C t f) w v) (u : Value) :
    Moved b (.cells (C.setIfInBounds i u) t f) w (v.setCell ⟨b, i, none⟩ u) := by
  refine ⟨h.os, h.tape, h.output, ?_, ?_, fun k hl hk => ?_⟩
  · simpa [World.setCell] using h.size
  · simp [World.setCell, Array.getElem?_modify, h.here]
  · rw [Below.heap_setCell _ _ _ _ hk, h.block k hl hk]
theorem Moved.below {b B : Nat} {o : Obj} {w v : World} (h : Moved b o w v) (hb : B ≤ b) (hB : B ≤ w.heap.size) : Below B w v :=
  ⟨h.os, h.tape, h.output, h.size, fun k hk => h.block k (by omega) (by omega)⟩
theorem Moved.other {b c : Nat} {o x : Obj} {w v : World} (h : Moved b o w v) (hc : w.heap[c]? = some x) (hn : c ≠ b) : v.heap[c]? = some x :=
  (h.block c (lt_of_heap hc) hn).trans hc
theorem GE.moved {w w' : World} {b : Nat} {o : Obj} (h : GE w) (m : Moved b o w w') (hb : b ≠ 1) : GE w' := by
  unfold GE; rw [World.cell?_of_block (w := w) (m.block 1 h.lt (Ne.symm hb))]; exact h

/-- a reader, in memory -/
def RObj (s : ByteArray) (e : Int) : Obj := .cells #[.string s, errV e] 207 (0, 0)
section
variable {w : World} {b : Nat} {s : ByteArray} {e : Int}
theorem RObj.c0 (h : w.heap[b]? = some (RObj s e)) : w.cell? ⟨b, 0, none⟩ = some (.string s) := by simp [World.cell?, h, RObj]
theorem RObj.c1 (h : w.heap[b]? = some (RObj s e)) : w.cell? ⟨b, 1, none⟩ = some (errV e) := by simp [World.cell?, h, RObj]
theorem RObj.fr (h : w.heap[b]? = some (RObj s e)) (i : Nat) : w.frozen? ⟨b, i, none⟩ = false := by simp [World.frozen?, h, RObj]
theorem Moved.set0 {v : World} (h : Moved b (RObj s e) w v) (x : ByteArray) : Moved b (RObj x e) w (v.setCell ⟨b, 0, none⟩ (.string x)) := by
  have := Moved.set (i := 0) h (.string x); simpa [RObj] using this
theorem Moved.set1 {v : World} (h : Moved b (RObj s e) w v) (x : Int) : Moved b (RObj s x) w (v.setCell ⟨b, 1, none⟩ (errV x)) := by
  have := Moved.set (i := 1) h (errV x); simpa [RObj] using this
end
theorem errV_zero : errV 0 = .nilIface := rfl
theorem errV_ne {e : Int} (h : e ≠ 0) : errV e = flt e := if_neg h

theorem extract_take (s : ByteArray) (k : Nat) : (s.extract 0 k).data.toList = s.data.toList.take k := by
  rw [Lib.extract_data, List.drop_zero, Nat.sub_zero]
theorem extract_drop (s : ByteArray) (k : Nat) : (s.extract k s.size).data.toList = s.data.toList.drop k := by
  rw [Lib.extract_data, List.take_of_length_le (by simp)]
theorem rnew_any (s : ByteArray) (w : World) : Calls Tryz.prog 172 #[.string s] w fun e w' => ∃ b, e = .returned (.pointer (some ⟨b, 0, none⟩)) ∧ w.heap.size ≤ b ∧ w'.heap[b]? = some (RObj s 0) ∧ Below w.heap.size w w' := by
  go_enter Tryz.func172, Tryz.ntmps172
  go_wp2
  go_ret
  exact ⟨w.heap.size, rfl, Nat.le_refl _, heap_alloc_new _ _, (Below.refl _ _).alloc (Nat.le_refl _) _⟩

/-- the reader's rest as a text, and its error -/
def RO (r : Rd) : Obj := RObj (bs r.rest) r.err

set_option maxRecDepth 100000 in
set_option maxHeartbeats 1000000 in
theorem rnum_raw (b : Nat) (s : ByteArray) (e : Int) (most : Int) (hs : s.size ≤ 281474976710656) (w : World) (hb : w.heap[b]? = some (RObj s e)) :
    Calls Tryz.prog 165 #[.pointer (some ⟨b, 0, none⟩), .int .i64 most] w fun v w' => v = .returned (.int .i64 (numR ⟨s.data.toList, e⟩ most).1) ∧ Moved b (RO (numR ⟨s.data.toList, e⟩ most).2) w w' := by
  have c0 := RObj.c0 hb
  have c1 := RObj.c1 hb
  have fr := RObj.fr hb
  have HM := Moved.refl hb
  by_cases he : e = 0
  · subst he
    rw [errV_zero] at c1
    cases hsc : scan s.data.toList with
    | fin =>
      have HR := Lib.hid (numR_fin (r := ⟨s.data.toList, 0⟩) (m := most) rfl hsc)
      have HC := Lib.hid hsc
      clear hsc
      go_enter Tryz.func165, Tryz.ntmps165
      go_wp2_with fail
      refine (first_any s hs _).mono ?_
      rintro e w1 ⟨rfl, hB⟩
      rw [HC.out]
      have hM1 := HM.and hB
      have fr1 := RObj.fr hM1.here
      have c01 := RObj.c0 hM1.here
      have c11 := RObj.c1 hM1.here
      have HM2 := Lib.hid (hM1.set1 32)
      clear HM hB hM1 c0 c1 fr
      unfold firstV
      go_wp2
      go_ret
      rw [HR.out]
      exact ⟨rfl, HM2.out⟩
    | form =>
      have HR := Lib.hid (numR_form (r := ⟨s.data.toList, 0⟩) (m := most) rfl hsc)
      have HC := Lib.hid hsc
      clear hsc
      go_enter Tryz.func165, Tryz.ntmps165
      go_wp2_with fail
      refine (first_any s hs _).mono ?_
      rintro e w1 ⟨rfl, hB⟩
      rw [HC.out]
      have hM1 := HM.and hB
      have fr1 := RObj.fr hM1.here
      have c01 := RObj.c0 hM1.here
      have c11 := RObj.c1 hM1.here
      have HM2 := Lib.hid (hM1.set1 30)
      clear HM hB hM1 c0 c1 fr
      unfold firstV
      go_wp2
      go_ret
      rw [HR.out]
      exact ⟨rfl, HM2.out⟩
    | num n z =>
      obtain ⟨-, -, -, hzl, hn63⟩ := scan_only hsc
      have hzs : z ≤ s.size := by simpa using hzl
      have hni : (n : Int) ≤ 9223372036854775807 := by omega
      clear hn63
      by_cases hok : (n : Int) ≤ most ∧ n ≤ top
      · have HR := Lib.hid (numR_ok (r := ⟨s.data.toList, 0⟩) (m := most) rfl hsc hok.1 hok.2)
        obtain ⟨ok1, ok2⟩ := hok
        have hx := Lib.hid (show bs (s.data.toList.drop z) = s.extract z s.size by rw [← extract_drop]; rfl)
        obtain ⟨mm, hmm⟩ : ∃ mm : Int, (if (4611686018427387903 : Int) < most then 4611686018427387903 else most) = mm := ⟨_, rfl⟩
        have ok3 : (n : Int) ≤ mm := by rw [← hmm]; unfold top at ok2; split <;> omega
        clear ok1
        have hz1 : (z : Int) ≤ (s.size : Int) := by omega
        clear ok2 hzl
        have HC := Lib.hid hsc
        clear hsc
        go_enter Tryz.func165, Tryz.ntmps165
        go_wp2_with fail
        refine (first_any s hs _).mono ?_
        rintro e w1 ⟨rfl, hB⟩
        rw [HC.out]
        have hM1 := HM.and hB
        have fr1 := RObj.fr hM1.here
        have c01 := RObj.c0 hM1.here
        have c11 := RObj.c1 hM1.here
        have HM2 := Lib.hid (hM1.set0 (s.extract z s.size))
        clear HM hB hM1 c0 c1 fr
        unfold firstV
        go_wp2
        go_ret
        rw [HR.out]
        exact ⟨rfl, by unfold RO; rw [hx.out]; exact HM2.out⟩
      · have HR := Lib.hid (numR_over (r := ⟨s.data.toList, 0⟩) (m := most) rfl hsc hok)
        have ok1 : ¬ ((n : Int) ≤ most ∧ (n : Int) ≤ 4611686018427387903) := fun h => hok ⟨h.1, by unfold top; omega⟩
        obtain ⟨mm, hmm⟩ : ∃ mm : Int, (if (4611686018427387903 : Int) < most then 4611686018427387903 else most) = mm := ⟨_, rfl⟩
        have ok3 : mm < (n : Int) := by
          rw [← hmm]
          split <;> omega
        clear hok hzl ok1
        have HC := Lib.hid hsc
        clear hsc
        go_enter Tryz.func165, Tryz.ntmps165
        go_wp2_with fail
        refine (first_any s hs _).mono ?_
        rintro e w1 ⟨rfl, hB⟩
        rw [HC.out]
        have hM1 := HM.and hB
        have fr1 := RObj.fr hM1.here
        have c01 := RObj.c0 hM1.here
        have c11 := RObj.c1 hM1.here
        have HM2 := Lib.hid (hM1.set1 31)
        clear HM hB hM1 c0 c1 fr
        unfold firstV
        go_wp2
        go_ret
        rw [HR.out]
        exact ⟨rfl, HM2.out⟩
  · have HR := Lib.hid (numR_err (r := ⟨s.data.toList, e⟩) he most)
    rw [errV_ne he] at c1
    clear he
    go_enter Tryz.func165, Tryz.ntmps165
    go_wp2
    go_ret
    rw [HR.out]
    exact ⟨rfl, HM⟩
end Go.Proofs.YtfokdmijkniomaaGreatDoor.WT

namespace Go.Proofs.YtfokdmijkniomaaGreatDoor.WT
open Go.RowKit Go

theorem info5e : (Tryz.prog.info? 5).map (fun i => (i.zero, i.size, i.bytes)) = some (some (.int .u8 0), 1, 1) := by kernel_rfl
theorem cells5 : Tryz.prog.cellsOf 5 = 1 := by kernel_rfl

/-! ### A text's copy -/
set_option maxRecDepth 100000 in
set_option maxHeartbeats 1000000 in
theorem copy_any (s : ByteArray) (hs : s.size ≤ 1048576) (w : World) :
    Calls Tryz.prog 73 #[.string s] w fun e w' => e = .returned (.string s) ∧ Below w.heap.size w w' := by
  by_cases h0 : s.size = 0
  · obtain rfl : s = ⟨#[]⟩ := ByteArray.ext (Array.eq_empty_of_size_eq_zero h0)
    clear h0
    go_enter Tryz.func73, Tryz.ntmps73
    go_wp2
    go_ret
    exact ⟨rfl, Below.refl _ _⟩
  · obtain ⟨i0, hi, hz0, hz1, hz2⟩ := info_parts info5e
    have hinfo : (Tryz.prog.info? 5).map (·.size) = some 1 := by rw [hi]; simp [hz1]
    have hmk := run_makeSlice (P := Tryz.prog) (w := w) 130 5 i0 (.int .u8 0) Tryz.underlying130 hi hz0 .i64 .i64 (s.size : Int) (s.size : Int) (by omega) (by omega) (by rw [hz1]; omega) (by rw [hz2]; omega) (by omega)
    rw [hz1, Nat.mul_one, Int.toNat_natCast, show Value.cells (.int .u8 0) = #[.int .u8 0] from rfl] at hmk
    obtain ⟨M, hM⟩ : ∃ M, madeCells #[Value.int .u8 0] s.size = M := ⟨_, rfl⟩
    have hMs : M.size = s.size := by rw [← hM, size_madeCells]
    rw [hM] at hmk
    have hcp := Lib.run_copy_row_string (P := Tryz.prog) (w.alloc (.cells M 5)) 130 9 3 5 w.heap.size 0 s.size s.size s M 5 Tryz.underlying130 hinfo (heap_alloc_new w _) (Nat.le_refl _) (by omega)
    obtain ⟨Y, hY⟩ : ∃ Y, (M.toList.take 0 ++ Lib.byteCells s.data.toList ++ M.toList.drop (0 + s.size)).toArray = Y := ⟨_, rfl⟩
    rw [hY] at hcp
    have hYl : Y.toList = Lib.byteCells s.data.toList := by
      rw [← hY, List.toList_toArray, List.take_zero, List.nil_append, List.drop_of_length_le (by rw [Array.length_toList]; omega), List.append_nil]
    have hsl : s.size = s.data.toList.length := Lib.size_eq s
    have hYs : Y.size = s.size := by rw [← Array.length_toList, hYl, Lib.byteCells_length, hsl]
    obtain ⟨u, hu⟩ : ∃ u, (w.alloc (.cells M 5)).setRow w.heap.size Y = u := ⟨_, rfl⟩
    have hgu : u.heap[w.heap.size]? = some (.cells Y 5 (0, 0)) := by rw [← hu]; exact setRow_heap _ _ M _ 5 (0, 0) (heap_alloc_new w _)
    have hub : Below w.heap.size w u := by
      rw [← hu]
      exact ((Below.refl _ w).alloc (Nat.le_refl _) _).trans ⟨rfl, rfl, rfl, by simp, fun k hk => setRow_other _ _ _ _ (by omega)⟩
    have hne : s.data.toList ≠ [] := fun e => h0 (by rw [hsl, e]; rfl)
    have hus := Lib.run_unsafeString_row (P := Tryz.prog) u 148 3 9 5 Tryz.underlying148 cells5 w.heap.size Y.size (by unfold World.shape?; rw [hgu]) s.data.toList hne (by omega) (by omega)
      (fun j x hx => Lib.cells_of_row hgu Y.size j _ (by rw [List.take_of_length_le (by rw [Array.length_toList]; exact Nat.le_refl _), hYl]; simp [Lib.byteCells, hx]))
    rw [← hsl] at hus
    have HU := Lib.hid hub
    have hn0 : ((s.size : Int) == 0) = false := beq_eq_false_iff_ne.2 (by omega)
    have hp0 : (0 : Int) < (s.size : Int) := by omega
    clear hM hY hYl hgu hub hne h0 hsl hYs hMs
    go_enter Tryz.func73, Tryz.ntmps73
    go_wp2
    go_ret
    exact ⟨rfl, Lib.below_freeze HU.out (p := ⟨w.heap.size, 0, none⟩) (Nat.le_refl _) _⟩
theorem clone_any (s : ByteArray) (hs : s.size ≤ 1048576) (w : World) :
    Calls Tryz.prog 44 #[.string s] w fun e w' => e = .returned (.string s) ∧ Below w.heap.size w w' := by
  go_enter Tryz.func44, Tryz.ntmps44
  go_wp2_with fail
  refine (copy_any s hs _).mono ?_
  rintro e w' ⟨rfl, hB⟩
  go_wp2_with fail
  go_ret
  exact ⟨rfl, hB⟩

/-! ### A reader's steps, by what it answers -/
theorem rd_self (r : Rd) : (⟨(bs r.rest).data.toList, r.err⟩ : Rd) = r := by rw [bs_list]
theorem rnum_any (b : Nat) (r : Rd) (most : Int) (hs : r.rest.length ≤ 281474976710656) (w : World) (hb : w.heap[b]? = some (RO r)) :
    Calls Tryz.prog 165 #[.pointer (some ⟨b, 0, none⟩), .int .i64 most] w fun v w' => v = .returned (.int .i64 (numR r most).1) ∧ Moved b (RO (numR r most).2) w w' := by
  have h := rnum_raw b (bs r.rest) r.err most (by rw [bs_size]; exact hs) w hb
  rwa [rd_self] at h

set_option maxRecDepth 100000 in
set_option maxHeartbeats 1000000 in
theorem rbytes_raw (b : Nat) (s : ByteArray) (e : Int) (n : Nat) (_hs : s.size ≤ 281474976710656) (hn : n ≤ 65536) (w : World) (hb : w.heap[b]? = some (RObj s e)) :
    Calls Tryz.prog 164 #[.pointer (some ⟨b, 0, none⟩), .int .i64 n] w fun v w' => v = .returned (.string (bs (bytesR ⟨s.data.toList, e⟩ n).1)) ∧ Moved b (RO (bytesR ⟨s.data.toList, e⟩ n).2) w w' := by
  have c0 := RObj.c0 hb
  have c1 := RObj.c1 hb
  have fr := RObj.fr hb
  have HM := Moved.refl hb
  by_cases he : e = 0
  · subst he
    rw [errV_zero] at c1
    by_cases hl : n ≤ s.size
    · have HR := Lib.hid (show bytesR ⟨s.data.toList, 0⟩ n = (s.data.toList.take n, ⟨s.data.toList.drop n, 0⟩) by unfold bytesR; rw [if_pos rfl, if_pos (by simpa using hl)])
      have hx := Lib.hid (show bs (s.data.toList.drop n) = s.extract n s.size by rw [← extract_drop]; rfl)
      have hy := Lib.hid (show bs (s.data.toList.take n) = s.extract 0 n by rw [← extract_take]; rfl)
      have hl1 : (n : Int) ≤ (s.size : Int) := by omega
      have hz : (s.extract 0 n).size ≤ 1048576 := by simp; omega
      have HZ := Lib.hid hz
      clear hz hl
      go_enter Tryz.func164, Tryz.ntmps164
      go_wp2_with fail
      refine (clone_any (s.extract 0 n) HZ.out _).mono ?_
      rintro e w1 ⟨rfl, hB⟩
      have hM1 := HM.and hB
      have fr1 := RObj.fr hM1.here
      have c01 := RObj.c0 hM1.here
      have HM2 := Lib.hid (hM1.set0 (s.extract n s.size))
      clear HM hB hM1 c0 c1 fr
      go_wp2
      go_ret
      rw [HR.out, hy.out]
      exact ⟨rfl, by unfold RO; rw [hx.out]; exact HM2.out⟩
    · have HR := Lib.hid (show bytesR ⟨s.data.toList, 0⟩ n = ([], ⟨s.data.toList, 32⟩) by unfold bytesR; rw [if_pos rfl, if_neg (by simpa using hl)])
      have hl1 : (s.size : Int) < (n : Int) := by omega
      have hm := HM.set1 32
      have c2 := RObj.c1 hm.here
      have HM2 := Lib.hid hm
      rw [errV_ne (by decide)] at c2
      have c3 : (w.setCell ⟨b, 1, none⟩ (flt 32)).cell? ⟨b, 1, none⟩ = some (flt 32) := c2
      clear hm hl HM
      go_enter Tryz.func164, Tryz.ntmps164
      go_wp2
      go_ret
      rw [HR.out]
      exact ⟨rfl, HM2.out⟩
  · have HR := Lib.hid (show bytesR ⟨s.data.toList, e⟩ n = ([], ⟨s.data.toList, e⟩) by unfold bytesR; rw [if_neg he])
    rw [errV_ne he] at c1
    clear he
    go_enter Tryz.func164, Tryz.ntmps164
    go_wp2
    go_ret
    rw [HR.out]
    exact ⟨rfl, HM⟩
theorem rbytes_any (b : Nat) (r : Rd) (n : Nat) (hs : r.rest.length ≤ 281474976710656) (hn : n ≤ 65536) (w : World) (hb : w.heap[b]? = some (RO r)) :
    Calls Tryz.prog 164 #[.pointer (some ⟨b, 0, none⟩), .int .i64 n] w fun v w' => v = .returned (.string (bs (bytesR r n).1)) ∧ Moved b (RO (bytesR r n).2) w w' := by
  have h := rbytes_raw b (bs r.rest) r.err n (by rw [bs_size]; exact hs) hn w hb
  rwa [rd_self] at h
theorem RO.c1 {w : World} {b : Nat} {r : Rd} (h : w.heap[b]? = some (RO r)) : w.cell? ⟨b, 1, none⟩ = some (errV r.err) := RObj.c1 h
theorem RO.c0 {w : World} {b : Nat} {r : Rd} (h : w.heap[b]? = some (RO r)) : w.cell? ⟨b, 0, none⟩ = some (.string (bs r.rest)) := RObj.c0 h

/-- what is told of a number that was read -/
def numV (p : Nat × Rd) : Value := .tuple #[.int .i64 p.1, .int .i64 p.2.err]
def textV (p : List UInt8 × Rd) : Value := .tuple #[.string (bs p.1), .int .i64 p.2.err]

theorem qnum_any (b : Nat) (hb0 : b ≠ 1) (r : Rd) (most : Int) (hs : r.rest.length ≤ 281474976710656) (w : World) (hg : GE w) (hb : w.heap[b]? = some (RO r)) :
    Calls Tryz.prog 131 #[.pointer (some ⟨b, 0, none⟩), .int .i64 most] w fun v w' => v = .returned (numV (numR r most)) ∧ Moved b (RO (numR r most).2) w w' := by
  obtain ⟨p, hp⟩ : ∃ p, numR r most = p := ⟨_, rfl⟩
  have C := rnum_any b r most hs
  rw [hp] at C ⊢
  go_enter Tryz.func131, Tryz.ntmps131
  go_wp2_with fail
  refine (C _ hb).mono ?_
  rintro e w1 ⟨rfl, hM⟩
  have c1 := RO.c1 hM.here
  have hg1 := hg.moved hM hb0
  go_wp2_with fail
  refine (errno_any _ _ hg1).mono ?_
  rintro e w2 ⟨rfl, hB⟩
  go_wp2_with fail
  go_ret2
  exact ⟨rfl, hM.and hB⟩

theorem bytesR_rest (r : Rd) (n : Nat) : (bytesR r n).2.rest.length ≤ r.rest.length := by
  unfold bytesR; split
  · split
    · simp
    · simp
  · simp
theorem numR_rest (r : Rd) (m : Int) : (numR r m).2.rest.length ≤ r.rest.length := by
  unfold numR; split
  · split
    · simp
    · simp
    · split <;> simp
  · simp
theorem textR_rest (r : Rd) (m : Int) : (textR r m).2.rest.length ≤ r.rest.length := Nat.le_trans (bytesR_rest _ _) (numR_rest _ _)
theorem low_walk (m : Int) : min m 65536 = low m := by
  unfold low; rw [Int.min_def]

theorem qend_any (b : Nat) (r : Rd) (w : World) (hg : GE w) (hb : w.heap[b]? = some (RO r)) :
    Calls Tryz.prog 173 #[.pointer (some ⟨b, 0, none⟩)] w fun v w' => v = .returned (.int .i64 (endR r)) ∧ Below w.heap.size w w' := by
  have c0 := RO.c0 hb
  have c1 := RO.c1 hb
  by_cases he : r.err = 0
  · by_cases hr : r.rest = []
    · have HR := Lib.hid (show endR r = 0 by unfold endR; rw [if_pos he, if_pos hr])
      rw [hr] at c0
      rw [he, errV_zero] at c1
      rw [show bs [] = ⟨#[]⟩ from rfl] at c0
      clear he hr
      go_enter Tryz.func173, Tryz.ntmps173
      go_wp2_with fail
      refine (errno_nil _).mono ?_
      rintro e w3 ⟨rfl, hB⟩
      go_wp2_with fail
      go_ret
      rw [HR.out]
      exact ⟨rfl, hB⟩
    · have HR := Lib.hid (show endR r = 32 by unfold endR; rw [if_pos he, if_neg hr])
      have hne : (bs r.rest).toList.isEmpty = false := by
        rw [ByteArray.toList_eq, bs_list]
        simpa using hr
      rw [he, errV_zero] at c1
      generalize bs r.rest = s at *
      clear he hr
      go_enter Tryz.func173, Tryz.ntmps173
      go_wp2
      go_ret
      rw [HR.out]
      exact ⟨rfl, Below.refl _ _⟩
  · have HR := Lib.hid (show endR r = r.err by unfold endR; rw [if_neg he])
    rw [errV_ne he] at c1
    have C := fun w => errno_flt r.err w
    clear he
    generalize r.err = e0 at *
    go_enter Tryz.func173, Tryz.ntmps173
    go_wp2_with fail
    refine (C _ hg).mono ?_
    rintro e w3 ⟨rfl, hB⟩
    go_wp2_with fail
    go_ret
    rw [HR.out]
    exact ⟨rfl, hB⟩
end Go.Proofs.YtfokdmijkniomaaGreatDoor.WT

namespace Go.Proofs.YtfokdmijkniomaaGreatDoor.WT
open Go.RowKit Go

set_option maxRecDepth 100000 in
set_option maxHeartbeats 2000000 in
theorem qtext_any (b : Nat) (hb0 : b ≠ 1) (r : Rd) (most : Int) (hs : r.rest.length ≤ 281474976710656) (w : World) (hg : GE w) (hb : w.heap[b]? = some (RO r)) :
    Calls Tryz.prog 130 #[.pointer (some ⟨b, 0, none⟩), .int .i64 most] w fun v w' => v = .returned (textV (textR r most)) ∧ Moved b (RO (textR r most).2) w w' := by
  have hlow := low_walk most
  have HT := Lib.hid (show textR r most = bytesR (numR r (low most)).2 (numR r (low most)).1 from rfl)
  have C := rnum_any b r (low most) hs
  have hn := numR_low r most
  have hr := numR_rest r (low most)
  generalize low most = m at *
  generalize numR r m = p at *
  have C2 := rbytes_any b p.2 p.1 (by omega) hn
  rw [HT.out]
  clear HT
  generalize bytesR p.2 p.1 = q at *
  go_enter Tryz.func130, Tryz.ntmps130
  go_wp2_with fail
  refine (C _ hb).mono ?_
  rintro e w1 ⟨rfl, hM⟩
  go_wp2_with fail
  refine (C2 _ hM.here).mono ?_
  rintro e w2 ⟨rfl, hM2⟩
  have hM3 := hM.trans hM2
  have c1 := RO.c1 hM3.here
  have hg1 := hg.moved hM3 hb0
  go_wp2_with fail
  refine (errno_any _ _ hg1).mono ?_
  rintro e w3 ⟨rfl, hB⟩
  go_wp2_with fail
  go_ret2
  exact ⟨rfl, hM3.and hB⟩


end Go.Proofs.YtfokdmijkniomaaGreatDoor.WT

namespace Go.Proofs.YtfokdmijkniomaaGreatDoor.WT
open Go.RowKit Go

theorem owns_below {W W' : World} {base : Nat} {e : TypeId} {v : Value} {n : Nat} {xs : List Value} (h : W.ownsRow base e 1 v n xs) (hB : Below W.heap.size W W') : W'.ownsRow base e 1 v n xs := by
  refine ⟨h.1, ?_⟩
  rcases h.2 with h1 | ⟨g, cap, cur, h1, h2, h3, h4⟩
  · exact .inl h1
  · exact .inr ⟨g, cap, cur, h1, h2, (hB.block g (Array.getElem?_eq_some_iff.1 h3).1).trans h3, h4⟩
theorem Moved.andB {b : Nat} {o : Obj} {w v u : World} (h : Moved b o w v) (hb : b < w.heap.size) (k : Below w.heap.size v u) : Moved b o w u :=
  ⟨k.os.trans h.os, k.tape.trans h.tape, k.output.trans h.output, Nat.le_trans h.size k.size, (k.block b hb).trans h.here, fun i hi hn => (k.block i hi).trans (h.block i hi hn)⟩

end Go.Proofs.YtfokdmijkniomaaGreatDoor.WT

