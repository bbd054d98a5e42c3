/-
  NvL / NvM / NvS.
-/
import Derived.Test.YtmloljjllmmkoaaGreatNC
import Derived.Test.YtmloljjllmmkoaaGreatMD
import Derived.Deep.RegionHeld3
import Derived.Test.YtmloljjllmmkoaaGreatMC
import Derived.Deep.RegionLaw
namespace Go.Proofs.YtmloljjllmmkoaaGreat
open Go.RowKit Go Go.Maps SM

set_option maxRecDepth 100000 in
set_option maxHeartbeats 1000000 in
theorem rnum_any (n k : Nat) (hn : n ≤ 9223372036854775807) (hk : k ≤ 8) (w : World) :
    Calls Tryz.prog 56 #[.int .i64 n, .int .i64 k] w fun e w' => e = .returned (.string (bsL (leN n k))) ∧ Below w.heap.size w w' := by
  obtain ⟨i0, hi, hz0, hz1, hz2⟩ := info_parts info5e
  have hk8 : (k : Int) ≤ 8 := by omega
  have H0 := Lib.hid (show (w.alloc (.cells #[] 5)).ownsRow w.heap.size 5 1 (.slice (some ⟨w.heap.size, 0, none⟩) 0 0) 0 [] from World.ownsRow_made w #[] 0 (Nat.le_refl _) (Nat.zero_le _) rfl)
  have HB0 := Lib.hid (show Below w.heap.size w (w.alloc (.cells #[] 5)) from (Below.refl _ w).alloc (Nat.le_refl _) _)
  go_enter Tryz.func56, Tryz.ntmps56
  go_wp2
  go_loopw [5, 0, 6] (fun v m i wr => ∃ j : Nat, j ≤ k ∧ i = .int .i64 j ∧ m = .int .i64 ((n / 256 ^ j : Nat) : Int) ∧ wr.ownsRow w.heap.size 5 1 v (leN n j).length (u8c (leN n j)) ∧ Below w.heap.size w wr) (fun _ _ i _ => k - (intOf i).toNat)
  case atStart => exact ⟨0, Nat.zero_le _, rfl, by simp, H0.out, HB0.out⟩
  case round =>
    obtain ⟨j, hj, rfl, rfl, hrow, hB⟩ := hrel
    by_cases hlt : j < k
    · have hji : (j : Int) < (k : Int) := by omega
      have HS := Lib.hid (show leN n (j + 1) = leN n j ++ [UInt8.ofNat (n / 256 ^ j % 256)] from leN_snoc j n)
      have HP := Lib.hid (show n / 256 ^ (j + 1) = n / 256 ^ j / 256 by rw [Nat.div_div_eq_div_mul, Nat.pow_succ])
      have hle : n / 256 ^ j ≤ 9223372036854775807 := Nat.le_trans (Nat.div_le_self _ _) hn
      have hlen := length_leN n j
      generalize n / 256 ^ j = q at *
      have hx : (UInt8.ofNat (q % 256)).toNat = q % 256 := by simp
      have hbw : IntKind.u8.wrap ((q : Int) % 256) = ((UInt8.ofNat (q % 256)).toNat : Int) := by
        rw [hx]
        show ((q : Int) % 256) % 256 = _
        omega
      have hbw2 : IntKind.u8.wrap ((q : Int).tmod 256) = ((UInt8.ofNat (q % 256)).toNat : Int) := by
        rw [Int.tmod_eq_emod_of_nonneg (by omega)]; exact hbw
      generalize UInt8.ofNat (q % 256) = x at *
      generalize leN n j = L at *
      have hszW : w.heap.size ≤ wr.heap.size := hB.size
      clear hx
      go_wp2_with (at_builtin; refine wpList_append_own _ rfl _ _ 85 rfl w.heap.size 5 i0 (.int .u8 0) 1 1 Tryz.underlying85 hi hz0 hz1 hz2 rfl (by decide) _ _ _ rfl (hrow.alloc _) ⟨wr.heap.size, 0, none⟩ 1 1 [.int .u8 x.toNat] rfl rfl (cell_one_new _ _ _) (by simp [Value.oneCell']) (by unfold maxLen; omega) (by omega) (by simp; omega) ?_; intro v' w1 hown' hgrow _)
      have hB1 : Below w.heap.size w w1 := (hB.alloc hszW _).grown hgrow (by simp; omega) (fun j ej => (hrow.lt j ej).1)
      go_roundw
      case rel => exact ⟨j + 1, by omega, by go_num, by rw [HP.out]; go_num, by rw [HS.out, List.length_append, u8c_snoc]; exact hown', hB1⟩
      case measure => simp [intOf]; omega
    · obtain rfl : j = k := by omega
      have hcv := conv_row wr w.heap.size _ _ hrow
      have HB := Lib.hid hB
      clear hlt hrow hB hj hk8 hk
      go_wp2
      go_ret
      exact ⟨rfl, HB.out⟩

theorem head_text (gen used : Nat) : (⟨#[78, 86]⟩ : ByteArray) ++ bsL (leN gen 6) ++ bsL (leN used 4) ++ nought 52 = headB gen used := by
  rw [← bsL_head]
  have hs : ((⟨#[78, 86]⟩ : ByteArray) ++ bsL (leN gen 6) ++ bsL (leN used 4)).size = 12 := by
    rw [ByteArray.size_append, ByteArray.size_append, size_bsL, size_bsL, length_leN, length_leN]; rfl
  rw [fillB, hs]
  rfl
/-! ### the reference's log -/
section
variable {q r n : Nat} {u : Value} {dead : Bool} {w : World}
end
section
variable {q r n base : Nat} {u : Value} {dead : Bool} {s : DS} {zs : List Int} {v0 v1 v2 : Value} {kp : ByteArray} {w0 w w' : World}
def headsDead (g u : Nat) (s : DS) (dead : Bool) : Bool := dead || ((heads g u s).1 == 2)
end
end Go.Proofs.YtmloljjllmmkoaaGreat

namespace Go.Proofs.YtmloljjllmmkoaaGreat
open Go.RowKit Go Go.Maps SM

theorem results_tmp5 {fn : Func} {t u v x y : Tmp} (h : fn.results = #[.tmp t, .tmp u, .tmp v, .tmp x, .tmp y]) (tmps : Array Value) (P : Program) (w : World) :
    (results fn tmps).run P w = .ok (.tuple #[tmps.getD t undef, tmps.getD u undef, tmps.getD v undef, tmps.getD x undef, tmps.getD y undef]) w := by
  simp [results, h]
theorem ref_new {w w' : World} {r n : Nat} (h : RNew w r n w') : ∃ v0, RefAt r w.heap.size (fresh (blank n)) [] v0 (.slice none 0 0) (.slice none 0 0) ⟨#[]⟩ w' ∧ w.heap.size ≤ r ∧ Below w.heap.size w w' := by
  obtain ⟨hl, a, c, e1, e2, e3⟩ := h
  have hln : (blank n).length = n := by simp [blank]
  refine ⟨.slice a n c, ⟨e1, ?_, World.ownsRow_nil _ _ _ _, World.ownsRow_nil _ _ _ _, fun k => by simp [fresh], Nat.zero_le _, fun h => absurd rfl h, Nat.zero_le _, hl⟩, hl, e3⟩
  show w'.ownsRow w.heap.size 9 1 (.slice a n c) (blank n).length (strVals (blank n))
  rw [hln]
  exact e2
section
variable {base b g m r q : Nat} {s : DS} {zs : List Int} {v v0 v1 v2 : Value} {kp : ByteArray} {x : LS} {l : Nat} {w w' : World}
theorem RefAt.lower {base' : Nat} (h : RefAt r base s zs v0 v1 v2 kp w) (hb : base' ≤ base) : RefAt r base' s zs v0 v1 v2 kp w :=
  ⟨h.obj, h.st.mono hb, h.lo.mono hb, h.ba.mono hb, h.bads, h.few, h.keep, h.kple, Nat.le_trans hb h.low⟩
/-! ### the same texts -/
/-- a slice of texts at a world -/
def TextsAt (W : World) (v : Value) (l : List ByteArray) : Prop :=
  ∃ a cap, v = .slice a l.length cap ∧ (l ≠ [] → ∃ b off, a = some ⟨b, off, none⟩ ∧ ∀ j (h : j < l.length), W.cell? ⟨b, off + j, none⟩ = some (.string l[j]))
theorem texts_of_row {W : World} {base : Nat} {v : Value} {l : List ByteArray} (h : W.ownsRow base 9 1 v l.length (strVals l)) : TextsAt W v l := by
  rcases h.2 with ⟨rfl, h0⟩ | ⟨g, cap, cur, rfl, _, hg, h4, h5, h6, h7⟩
  · exact ⟨none, 0, by rw [h0], fun hne => absurd (List.eq_nil_of_length_eq_zero h0) hne⟩
  · refine ⟨_, cap, rfl, fun _ => ⟨g, 0, rfl, fun i hi => ?_⟩⟩
    have := h.cellAt (g := g) (cap := cap) i (by omega)
    rw [Nat.zero_add, this]
    simp [strVals, hi]
theorem lt_of_cell {W : World} {a : Addr} {v : Value} (h : W.cell? a = some v) : a.block < W.heap.size := by
  rcases Nat.lt_or_ge a.block W.heap.size with h' | h'
  · exact h'
  · simp [World.cell?, Array.getElem?_eq_none h'] at h
theorem text_ne {a b : ByteArray} (h : a ≠ b) : (a.toList == b.toList) = false ∧ (a.toList != b.toList) = true := texts_ne h
end
end Go.Proofs.YtmloljjllmmkoaaGreat

namespace Go.Proofs.YtmloljjllmmkoaaGreat
open Go.RowKit Go Go.Maps SM

theorem valN_drop {s : ByteArray} {j : Nat} (h : j < s.size) : valN (s.data.toList.drop j) = s[j].toNat + 256 * valN (s.data.toList.drop (j + 1)) := by
  have hj : j < s.data.toList.length := by simpa using h
  rw [List.drop_eq_getElem_cons hj, valN]
  rfl
theorem valN_few {l : List UInt8} {k : Nat} (h : l.length ≤ k) : valN l < 256 ^ k := Nat.lt_of_lt_of_le (valN_lt l) (Nat.pow_le_pow_right (by decide) h)

set_option maxRecDepth 100000 in
set_option maxHeartbeats 1000000 in
theorem rval_any (s : ByteArray) (hs : s.size ≤ 7) (w : World) :
    Calls Tryz.prog 97 #[.string s] w fun e w' => e = .returned (.int .i64 (valN s.data.toList)) ∧ w = w' := by
  have hs0 : (s.size : Int) ≤ 7 := by omega
  go_enter Tryz.func97, Tryz.ntmps97
  go_wp2
  go_loopw [3, 4] (fun n i wr => ∃ k : Nat, k ≤ s.size ∧ n = .int .i64 (valN (s.data.toList.drop k)) ∧ i = .int .i64 ((k : Int) - 1) ∧ w = wr) (fun _ i _ => (intOf i + 1).toNat)
  case atStart => exact ⟨s.size, Nat.le_refl _, by rw [List.drop_of_length_le (by simp)]; rfl, by go_num, rfl⟩
  case round =>
    obtain ⟨k, hk, rfl, rfl, rfl⟩ := hrel
    rcases k with _ | j
    · have e1 : (((0 : Nat) : Int) - 1) = -1 := by omega
      rw [e1]
      simp only [List.drop_zero]
      go_wp2
      go_ret
      exact ⟨rfl, rfl⟩
    · have e1 : (((j + 1 : Nat) : Int) - 1) = (j : Int) := by omega
      rw [e1]
      have hj : j < s.size := by omega
      have HD := Lib.hid (valN_drop hj)
      have hm := valN_few (l := s.data.toList.drop (j + 1)) (k := 6) (by rw [List.length_drop]; simp; omega)
      have hb := s[j].toNat_lt
      generalize valN (s.data.toList.drop (j + 1)) = m at *
      have hj0 : (0 : Int) ≤ (j : Int) := Int.natCast_nonneg _
      have hc : wrap64 (s[j].toNat : Int) = (s[j].toNat : Int) := by unfold wrap64; omega
      go_wp2
      go_roundw
      case rel => exact ⟨j, by omega, by rw [HD.out]; generalize s[j].toNat = x at *; go_num, by go_num, trivial⟩
      case measure => simp [intOf]
theorem TextsAt.later {W W' : World} {v : Value} {l : List ByteArray} (h : TextsAt W v l) (hB : Below W.heap.size W W') : TextsAt W' v l := by
  obtain ⟨a, c, e, ha⟩ := h
  refine ⟨a, c, e, fun hne => ?_⟩
  obtain ⟨b, off, e2, hc⟩ := ha hne
  exact ⟨b, off, e2, fun j hj => (hB.cell (p := ⟨b, off + j, none⟩) (lt_of_cell (hc j hj))).trans (hc j hj)⟩
end Go.Proofs.YtmloljjllmmkoaaGreat

