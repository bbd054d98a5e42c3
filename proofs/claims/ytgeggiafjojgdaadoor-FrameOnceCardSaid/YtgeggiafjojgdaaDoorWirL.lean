/-
  lay: the bytes of each number, one behind the other.
-/
import Derived.Test.YtgeggiafjojgdaaDoorWirB
import Derived.Test.YtgeggiafjojgdaaDoorWirMath
import Derived.IntWalk
import Derived.Laws.MakeOwn
import Derived.Laws.OwnMore
import Derived.OwnWalk
import Derived.Maps.AppendAt
import Derived.Lib.Strings
import Derived.RangeFuncBox
import Derived.Laws.BytesArg
namespace Go.Proofs.YtgeggiafjojgdaaDoor
open Go.RowKit Go

theorem info5 : (Tryd.prog.info? 5).map (fun i => (i.zero, i.size, i.bytes)) = some (some (.int .u8 0), 1, 1) := by kernel_rfl
def u8s (l : List UInt8) : List Value := l.map fun b => Value.int .u8 b.toNat
theorem u8s_len (l : List UInt8) : (u8s l).length = l.length := by simp [u8s]
theorem u8s_snoc (l : List UInt8) (x : UInt8) : u8s (l ++ [x]) = u8s l ++ [.int .u8 x.toNat] := by simp [u8s]

/-- a slice of numbers, at a world -/
def IntsAt (W : World) (v : Value) (zs : List Int) : Prop :=
  ∃ a cap, v = .slice a zs.length cap ∧ (zs ≠ [] → ∃ b off, a = some ⟨b, off, none⟩ ∧ b < W.heap.size ∧ ∀ j (h : j < zs.length), W.cell? ⟨b, off + j, none⟩ = some (.int .i64 zs[j]))
theorem IntsAt.split {W : World} {v : Value} {zs : List Int} (h : IntsAt W v zs) : ∃ a cap, v = .slice a zs.length cap ∧ (zs ≠ [] → ∃ b off, a = some ⟨b, off, none⟩ ∧ b < W.heap.size ∧ ∀ j (h : j < zs.length), W.cell? ⟨b, off + j, none⟩ = some (.int .i64 zs[j])) := h
theorem IntsAt.empty {W : World} {v : Value} {a : Option Addr} {cap : Nat} (h : v = .slice a 0 cap) : IntsAt W v [] := ⟨a, cap, h, fun e => absurd rfl e⟩
theorem IntsAt.at {W : World} {v : Value} {zs : List Int} (b off cap : Nat) (h : v = .slice (some ⟨b, off, none⟩) zs.length cap) (hb : b < W.heap.size) (hc : ∀ j (h : j < zs.length), W.cell? ⟨b, off + j, none⟩ = some (.int .i64 zs[j])) : IntsAt W v zs :=
  ⟨_, cap, h, fun _ => ⟨b, off, rfl, hb, hc⟩⟩
theorem IntsAt.same {W W' : World} {v : Value} {zs : List Int} (h : IntsAt W v zs) (hs : W.heap.size ≤ W'.heap.size) (hB : ∀ b off cap, v = .slice (some ⟨b, off, none⟩) zs.length cap → b < W.heap.size → W'.heap[b]? = W.heap[b]?) : IntsAt W' v zs := by
  obtain ⟨a, cap, h1, h2⟩ := h
  refine ⟨a, cap, h1, fun hne => ?_⟩
  obtain ⟨b, off, e, hb, hc⟩ := h2 hne
  subst e
  exact ⟨b, off, rfl, Nat.lt_of_lt_of_le hb hs, fun j hj => (World.cell?_of_block (w := W) (hB b off cap h1 hb)).trans (hc j hj)⟩
theorem IntsAt.later {W W' : World} {v : Value} {zs : List Int} (h : IntsAt W v zs) (hB : Below W.heap.size W W') : IntsAt W' v zs :=
  h.same hB.size fun b _ _ _ hb => hB.block b hb

/-- bytes of a row of the call's own, as a text -/
theorem row_cells {W : World} {base : Nat} {e : TypeId} {v : Value} {n : Nat} {xs : List Value} (h : W.ownsRow base e 1 v n xs) (hv : v ≠ .slice none 0 0) :
    ∃ g cap, v = .slice (some ⟨g, 0, none⟩) n cap ∧ base ≤ g ∧ g < W.heap.size ∧ n ≤ cap ∧ cap ≤ maxLen ∧ ∀ (i : Nat) u, xs[i]? = some u → W.cell? ⟨g, i, none⟩ = some u := by
  rcases h.2 with ⟨e, _⟩ | ⟨g, cap, cur, h1, h2, h3, h4, h5, h6, h7⟩
  · exact absurd e hv
  · refine ⟨g, cap, h1, h2, (Array.getElem?_eq_some_iff.1 h3).1, h4, h5, fun i u hu => ?_⟩
    have hi : i < n := by
      have := (List.getElem?_eq_some_iff.1 hu).1
      have := h.1
      omega
    rw [← h7, List.getElem?_take_of_lt (by omega)] at hu
    simp only [World.cell?, h3]
    simpa using hu
theorem conv_own (W : World) (base : Nat) (v : Value) (l : List UInt8) (h : W.ownsRow base 5 1 v l.length (u8s l)) :
    (convert 33 9 v).run Tryd.prog W = .ok (.string (bs l)) W := by
  by_cases hv : v = .slice none 0 0
  · have hl : l.length = 0 := by
      rcases h.2 with ⟨_, e⟩ | ⟨g, cap, cur, h1, _⟩
      · exact e
      · rw [hv] at h1; cases h1
    obtain rfl : l = [] := List.eq_nil_of_length_eq_zero hl
    subst hv
    exact run_convert_bytes_nil W 33 5 Tryd.underlying33 Tryd.underlying5 0 0 9 Tryd.underlying9
  · obtain ⟨g, cap, rfl, _, _, _, _, hc⟩ := row_cells h hv
    exact run_convert_bytes_back W 33 9 5 ⟨g, 0, none⟩ cap l Tryd.underlying33 Tryd.underlying5 Tryd.underlying9 (fun j hj => by
      rw [Addr.add_lit, Nat.zero_add, hc j (.int .u8 (l[j].toNat : Nat)) (by simp [u8s, hj])])
theorem byte_low (n : Nat) (h : n < 128) : IntKind.u8.wrap (n : Int) = ((UInt8.ofNat n).toNat : Int) := by
  rw [toNat_small (by omega)]
  show (n : Int) % 256 = _
  omega
theorem byte_high (n : Nat) : IntKind.u8.wrap ((n : Int).tmod 128 + 128) = ((UInt8.ofNat (n % 128 + 128)).toNat : Int) := by
  rw [toNat_small (by omega), Int.tmod_eq_emod_of_nonneg (by omega)]
  show ((n : Int) % 128 + 128) % 256 = _
  omega

set_option maxRecDepth 100000 in
set_option maxHeartbeats 4000000 in
theorem lay_any (v : Value) (ns : List Nat) (hn : ns.length ≤ 1048576) (hm : ∀ n ∈ ns, n ≤ 9223372036854775807) (w : World) (h : IntsAt w v (ns.map fun n : Nat => (n : Int))) :
    Calls Tryd.prog 37 #[v] w fun e w' => e = .returned (.string (bs (layL ns))) ∧ Below w.heap.size w w' := by
  obtain ⟨a, cap, rfl, ha0⟩ := h.split
  have ha : ∀ k, k < ns.length → ∃ b off, a = some ⟨b, off, none⟩ ∧ b < w.heap.size ∧ ∀ j (h : j < ns.length), w.cell? ⟨b, off + j, none⟩ = some (.int .i64 (ns[j] : Int)) := by
    intro k hk
    obtain ⟨b, off, e1, e2, e3⟩ := ha0 (by intro e; have := congrArg List.length e; simp at this; rw [this] at hk; exact absurd hk (by simp))
    exact ⟨b, off, e1, e2, fun j hj => by rw [e3 j (by simpa using hj)]; simp⟩
  clear ha0
  rw [List.length_map]
  obtain ⟨i0, hi, hz0, hz1, hz2⟩ := info_parts info5
  have HA := Lib.hid ha
  have HMx := Lib.hid hm
  clear h ha hm
  go_enter Tryd.func37, Tryd.ntmps37
  go_wp2
  go_loopw [3, 8] (fun v i wr => ∃ k : Nat, k ≤ ns.length ∧ i = .int .i64 k ∧ wr.ownsRow w.heap.size 5 1 v (layL (ns.take k)).length (u8s (layL (ns.take k))) ∧ Below w.heap.size w wr) (fun _ i _ => ns.length - (intOf i).toNat)
  case atStart => exact ⟨0, Nat.zero_le _, rfl, by rw [List.take_zero]; exact World.ownsRow_nil _ _ _ _, Below.refl _ _⟩
  case round =>
    obtain ⟨k, hk, rfl, hrow, hB⟩ := hrel
    have HR := Lib.hid hrow
    have HB := Lib.hid hB
    clear hrow hB
    by_cases hlt : k < ns.length
    · obtain ⟨b, off, rfl, hb, hc⟩ := HA.out k hlt
      have hcell : wr.cell? ⟨b, off + k, none⟩ = some (.int .i64 (ns[k] : Int)) := (HB.out.cell (p := ⟨b, off + k, none⟩) hb).trans (hc k hlt)
      have hlt' : (k : Int) < (ns.length : Int) := by omega
      have hmx := HMx.out ns[k] (List.getElem_mem hlt)
      have hlen := layL_len (ns.take k) (fun n hn => HMx.out n (List.mem_of_mem_take hn))
      rw [List.length_take] at hlen
      have HN := Lib.hid (show layL (ns.take (k + 1)) = layL (ns.take k) ++ dg ns[k] by rw [List.take_succ_eq_append_getElem hlt, layL_snoc])
      have HL := Lib.hid hlen
      generalize ns[k] = n at *
      generalize layL (ns.take k) = l0 at *
      obtain ⟨wo, rfl⟩ : ∃ wo : World, wo = wr := ⟨_, rfl⟩
      clear hc
      go_wp2
      go_loopw [3, 5] (fun v i wr => ∃ (m : Nat) (l : List UInt8), i = .int .i64 m ∧ m ≤ n ∧ l ++ dg m = l0 ++ dg n ∧ wr.ownsRow w.heap.size 5 1 v l.length (u8s l) ∧ Below w.heap.size w wr) (fun _ i _ => (intOf i).toNat)
      case atStart => exact ⟨n, l0, rfl, Nat.le_refl _, rfl, HR.out, HB.out⟩
      case round =>
        clear HR HB hcell
        obtain ⟨m, l, rfl, hmn, heq, hrow, hB⟩ := hrel
        have hll := congrArg List.length heq
        have hd9 := dg_9 (n := n) hmx
        have hd1 := dg_pos m
        rw [List.length_append, List.length_append] at hll
        have hl : l.length ≤ 9 * ns.length + 9 := by omega
        have hszW : w.heap.size ≤ wr.heap.size := hB.size
        by_cases hlow : m < 128
        · have HE := Lib.hid (show l0 ++ dg n = l ++ [UInt8.ofNat m] by rw [← heq, dg_lt hlow])
          have hbl := byte_low m hlow
          generalize UInt8.ofNat m = x at HE hbl
          have hlow' : ¬ (128 : Int) ≤ (m : Int) := by omega
          clear heq hll hd9 hd1
          go_wp2_with (at_builtin; refine wpList_append_own _ rfl _ _ 33 rfl w.heap.size 5 i0 (.int .u8 0) 1 1 Tryd.underlying33 hi hz0 hz1 hz2 rfl (by decide) _ _ _ rfl (hrow.alloc _) ⟨wr.heap.size, 0, none⟩ 1 1 [.int .u8 x.toNat] rfl rfl (cell_one_new _ _ _) (by simp [Value.oneCell']) (by unfold maxLen; omega) (by omega) (by simp; omega) ?_; intro v' w1 hown' hgrow _)
          have hB1 : Below w.heap.size w w1 := (hB.alloc hszW _).grown hgrow (by simp; omega) (fun j ej => (hrow.lt j ej).1)
          go_roundw
          case rel => exact ⟨k + 1, by omega, by go_num, by rw [HN.out, HE.out, List.length_append, u8s_snoc]; exact hown', hB1⟩
          case measure => simp [intOf]; omega
        · have hbh := byte_high m
          have hbh2 : IntKind.u8.wrap ((m : Int) % 128 + 128) = ((UInt8.ofNat (m % 128 + 128)).toNat : Int) := by rw [← Int.tmod_eq_emod_of_nonneg (by omega)]; exact hbh
          have hq1 : (m : Int).tdiv 128 = ((m / 128 : Nat) : Int) := by rw [Int.tdiv_eq_ediv_of_nonneg (by omega)]; omega
          have hq2 : (m : Int) / 128 = ((m / 128 : Nat) : Int) := by omega
          have HE := Lib.hid (show (l ++ [UInt8.ofNat (m % 128 + 128)]) ++ dg (m / 128) = l0 ++ dg n by rw [← heq, dg_ge hlow, List.append_assoc, List.singleton_append])
          have hq3 : m / 128 < m := by omega
          generalize UInt8.ofNat (m % 128 + 128) = x at *
          generalize m / 128 = q at *
          have hlow' : (128 : Int) ≤ (m : Int) := by omega
          clear heq hll hd9 hd1
          go_wp2_with (at_builtin; refine wpList_append_own _ rfl _ _ 33 rfl w.heap.size 5 i0 (.int .u8 0) 1 1 Tryd.underlying33 hi hz0 hz1 hz2 rfl (by decide) _ _ _ rfl (hrow.alloc _) ⟨wr.heap.size, 0, none⟩ 1 1 [.int .u8 x.toNat] rfl rfl (cell_one_new _ _ _) (by simp [Value.oneCell']) (by unfold maxLen; omega) (by omega) (by simp; omega) ?_; intro v' w1 hown' hgrow _)
          have hB1 : Below w.heap.size w w1 := (hB.alloc hszW _).grown hgrow (by simp; omega) (fun j ej => (hrow.lt j ej).1)
          go_roundw
          case rel => exact ⟨q, l ++ [x], rfl, by omega, HE.out, by rw [List.length_append, u8s_snoc]; exact hown', hB1⟩
          case measure => simp [intOf]; omega
    · obtain rfl : k = ns.length := by omega
      have hrow := HR.out
      rw [List.take_length] at hrow
      have hcv := conv_own wr w.heap.size _ _ hrow
      have hB := HB.out
      clear hlt hrow HR HB
      go_wp2
      go_ret
      exact ⟨rfl, hB⟩
end Go.Proofs.YtgeggiafjojgdaaDoor

