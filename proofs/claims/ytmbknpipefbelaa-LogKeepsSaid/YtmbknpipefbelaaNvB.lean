/-
  A log's reader: bytes taken one behind the other by a closure; the number of bytes; what sector 0 says.
-/
import Derived.Test.YtmbknpipefbelaaNvA
import Derived.Lib.ConvBytes
namespace Go.Proofs.Ytmbknpipefbelaa
open Go.RowKit Go Go.Maps SM

/-- what is left of a row of bytes -/
def Rest (v : Value) (L : List UInt8) (w : World) : Prop :=
  ∃ a cap, v = .slice a L.length cap ∧ L.length ≤ cap ∧ cap ≤ maxLen ∧ (L ≠ [] → ∃ g off C f, a = some ⟨g, off, none⟩ ∧ w.heap[g]? = some (.cells C 5 f) ∧ ∀ i (h : i < L.length), w.cell? ⟨g, off + i, none⟩ = some (.int .u8 L[i].toNat))
section
variable {v : Value} {L : List UInt8} {w w' : World}
theorem Rest.same (h : Rest v L w) (hb : ∀ (g : Nat) (C : Array Value) (f : Nat × Nat), w.heap[g]? = some (.cells C 5 f) → w'.heap[g]? = w.heap[g]?) : Rest v L w' := by
  obtain ⟨a, cap, h1, h2, h3, h4⟩ := h
  refine ⟨a, cap, h1, h2, h3, fun hne => ?_⟩
  obtain ⟨g, off, C, f, e, h5, h6⟩ := h4 hne
  exact ⟨g, off, C, f, e, (hb g C f h5).trans h5, fun i hi => (World.cell?_of_block (w := w) (hb g C f h5)).trans (h6 i hi)⟩
theorem Rest.below (h : Rest v L w) (hB : Below w.heap.size w w') : Rest v L w' :=
  h.same fun g _ _ hg => hB.block g (lt_of_heap hg)
theorem Rest.len (h : Rest v L w) : L.length ≤ maxLen := by
  obtain ⟨a, cap, _, h2, h3, _⟩ := h
  omega
end

/-- the box's block -/
def boxO (v : Value) : Obj := .cells #[v] 43 (0, 0)

theorem or64 {a b k : Nat} (ha : a < 2 ^ k) (hs : a + b * 2 ^ k < 9223372036854775808) : bits .or .i64 (a : Int) ((b * 2 ^ k : Nat) : Int) = ((a + b * 2 ^ k : Nat) : Int) := by
  have e : (BitVec.ofInt 64 (a : Int) ||| BitVec.ofInt 64 ((b * 2 ^ k : Nat) : Int)).toNat = a + b * 2 ^ k := by
    rw [BitVec.toNat_or, BitVec.toNat_ofInt, BitVec.toNat_ofInt]
    have h1 : ((a : Int) % ((2 ^ 64 : Nat) : Int)).toNat = a := by omega
    have h2 : (((b * 2 ^ k : Nat) : Int) % ((2 ^ 64 : Nat) : Int)).toNat = b * 2 ^ k := by omega
    rw [h1, h2, Nat.or_comm, Nat.mul_comm b, ← Nat.two_pow_add_eq_or_of_lt ha]
    omega
  show IntKind.i64.wrap ((BitVec.ofInt 64 (a : Int) ||| BitVec.ofInt 64 ((b * 2 ^ k : Nat) : Int)).toNat : Int) = _
  rw [e]
  exact wrapI _ (by omega) (by omega)
theorem valN_snoc : ∀ (l : List UInt8) (x : UInt8), valN (l ++ [x]) = valN l + x.toNat * 2 ^ (8 * l.length)
  | [], x => by simp [valN]
  | b :: r, x => by
    rw [List.cons_append, valN, valN, valN_snoc r x, List.length_cons, Nat.mul_add 8, Nat.pow_add, Nat.mul_add, show 2 ^ (8 * 1) = 256 by decide]
    have : 256 * (x.toNat * 2 ^ (8 * r.length)) = x.toNat * (2 ^ (8 * r.length) * 256) := by rw [Nat.mul_left_comm, Nat.mul_comm (2 ^ _)]
    omega
theorem valN_lt2 (l : List UInt8) : valN l < 2 ^ (8 * l.length) := by
  have := valN_lt l
  rwa [show 256 = 2 ^ 8 by decide, ← Nat.pow_mul] at this

theorem wrap_nat {n : Nat} (h : n < 9223372036854775808) : wrap64 (n : Int) = (n : Int) := by unfold wrap64; omega

set_option maxRecDepth 100000 in
set_option maxHeartbeats 1000000 in
theorem value_any {v : Value} {L : List UInt8} {w : World} (h : Rest v L w) (hL : L.length ≤ 7) :
    Calls Try.prog 63 #[v] w fun e w' => e = .returned (.int .i64 (valN L)) ∧ w = w' := by
  obtain ⟨a, cap, rfl, h2, h3, h4⟩ := h
  have HC := Lib.hid h4
  clear h4
  have hl7 : (L.length : Int) ≤ 7 := by omega
  go_enter Try.func63, Try.ntmps63
  go_wp2
  go_loop [3, 8] (fun n i => ∃ j : Nat, j ≤ L.length ∧ i = .int .i64 j ∧ n = .int .i64 (valN (L.take j))) (fun _ i => L.length - (intOf i).toNat)
  case atStart => exact ⟨0, Nat.zero_le _, rfl, rfl⟩
  case round =>
    obtain ⟨j, hj, rfl, rfl⟩ := hrel
    by_cases hlt : j < L.length
    · obtain ⟨g, off, _, _, rfl, hg, hc⟩ := HC.out (by rintro rfl; simp at hlt)
      have hcell := hc j hlt
      have hji : (j : Int) < (L.length : Int) := by omega
      have hlen : (L.take j).length = j := by simp; omega
      have hv := valN_snoc (L.take j) L[j]
      rw [hlen, ← List.take_succ_eq_append_getElem hlt] at hv
      have hlt1 := valN_lt2 (L.take j)
      rw [hlen] at hlt1
      have hlt2 := valN_lt2 (L.take (j + 1))
      rw [show (L.take (j + 1)).length = j + 1 by simp; omega] at hlt2
      have HV := Lib.hid hv
      have h56 : 2 ^ (8 * (j + 1)) ≤ 2 ^ 56 := Nat.pow_le_pow_right (by decide) (by omega)
      have hor := or64 (b := L[j].toNat) hlt1 (by rw [← hv]; omega)
      clear hc hlen hv hlt1
      generalize hq : valN (L.take (j + 1)) = q at hlt2 HV hor
      have HQ := Lib.hid hq.symm
      clear hq
      generalize valN (L.take j) = p at *
      generalize L[j] = x at *
      go_wp2
      go_roundw
      case rel =>
        refine ⟨j + 1, by omega, by go_num, ?_⟩
        have hx := x.toNat_lt
        have hb : x.toNat * 2 ^ (8 * j) ≤ q := by rw [HV.out]; omega
        rw [wrap_nat (n := x.toNat) (by omega), show (x.toNat : Int) * 2 ^ (8 * j) = ((x.toNat * 2 ^ (8 * j) : Nat) : Int) by rw [Int.natCast_mul, Int.natCast_pow]; rfl, wrap_nat (by omega), hor, ← HV.out, HQ.out]
      case measure => simp [intOf]; omega
    · obtain rfl : j = L.length := by omega
      rw [List.take_length]
      go_wp2
      go_ret
      exact ⟨rfl, rfl⟩

/-! ### the closure -/
theorem sliced_rest {a : Option Addr} {L : List UInt8} {cap k : Nat} {w : World} (hk : k ≤ L.length) (h2 : L.length ≤ cap) (h3 : cap ≤ maxLen)
    (h4 : L ≠ [] → ∃ g off C f, a = some ⟨g, off, none⟩ ∧ w.heap[g]? = some (.cells C 5 f) ∧ ∀ i (h : i < L.length), w.cell? ⟨g, off + i, none⟩ = some (.int .u8 L[i].toNat)) :
    Rest (.slice a k cap) (L.take k) w ∧ Rest (.slice (if cap = k then a else a.map (·.add k)) (L.length - k) (cap - k)) (L.drop k) w := by
  refine ⟨⟨a, cap, by rw [List.length_take, Nat.min_eq_left hk], by rw [List.length_take]; omega, h3, fun hne => ?_⟩, ⟨_, cap - k, by rw [List.length_drop], by rw [List.length_drop]; omega, by omega, fun hne => ?_⟩⟩
  · obtain ⟨g, off, C, f, e, hg, hc⟩ := h4 (by rintro rfl; exact hne (by simp))
    exact ⟨g, off, C, f, e, hg, fun i hi => by
      rw [List.length_take] at hi
      rw [List.getElem_take]
      exact hc i (by omega)⟩
  · obtain ⟨g, off, C, f, e, hg, hc⟩ := h4 (by rintro rfl; exact hne (by simp))
    have hlt : k < L.length := by
      rcases Nat.lt_or_ge k L.length with h | h
      · exact h
      · exact absurd (List.drop_of_length_le h) hne
    refine ⟨g, off + k, C, f, ?_, hg, fun i hi => ?_⟩
    · rw [if_neg (by omega), e, Option.map_some, Addr.add_lit]
    · rw [List.length_drop] at hi
      rw [List.getElem_drop, ← hc (k + i) (by omega), Nat.add_assoc]

theorem clampMin (n N : Nat) : ∃ k : Nat, min (n : Int) (N : Int) = (k : Int) ∧ (if (N : Int) < (n : Int) then (N : Int) else (n : Int)) = (k : Int) ∧ (if (n : Int) < (N : Int) then (n : Int) else (N : Int)) = (k : Int) ∧ k = min n N :=
  ⟨min n N, by omega, by split <;> omega, by split <;> omega, rfl⟩
set_option maxRecDepth 100000 in
theorem take_any {x n : Nat} {v : Value} {L : List UInt8} {w : World} (hx : w.heap[x]? = some (boxO v)) (h : Rest v L w) (_hn : n ≤ 4611686018427387904) :
    Calls Try.prog 75 #[.int .i64 n, .pointer (some ⟨x, 0, none⟩)] w fun e w' => ∃ u v', e = .returned u ∧ Rest u (L.take n) w' ∧ Rest v' (L.drop n) w' ∧ w'.heap[x]? = some (boxO v') ∧ Stir (· = x) w w' := by
  obtain ⟨a, cap, rfl, h2, h3, h4⟩ := h
  obtain ⟨k, e1, e2, e3, hk⟩ := clampMin n L.length
  have hkl : k ≤ L.length := by omega
  have hsl := sliced_rest hkl h2 h3 h4
  have htk : L.take n = L.take k := by rw [hk, List.take_eq_take_min]
  have hdr : L.drop n = L.drop k := by
    rcases Nat.le_total n L.length with h | h
    · rw [show k = n by omega]
    · rw [show k = L.length by omega, List.drop_of_length_le h, List.drop_of_length_le (Nat.le_refl _)]
  rw [htk, hdr]
  have c0 : w.cell? ⟨x, 0, none⟩ = some (.slice a L.length cap) := by simp [World.cell?, hx, boxO]
  have f0 : w.frozen? ⟨x, 0, none⟩ = false := by simp [World.frozen?, hx, boxO]
  obtain ⟨a', ha'⟩ : ∃ a', (if cap = k then a else a.map (·.add k)) = a' := ⟨_, rfl⟩
  rw [ha'] at hsl
  have HA := Lib.hid ha'
  obtain ⟨w1, hw1⟩ : ∃ w1, w.setCell ⟨x, 0, none⟩ (.slice a' (L.length - k) (cap - k)) = w1 := ⟨_, rfl⟩
  have hx1 : w1.heap[x]? = some (boxO (.slice a' (L.length - k) (cap - k))) := by
    rw [← hw1, heap_set hx]; simp [boxO]
  have hst : Stir (· = x) w w1 := by rw [← hw1]; exact (Stir.refl (· = x) w).set (.inl rfl) _
  have hkeep : ∀ v L, Rest v L w → Rest v L w1 := fun v L h => h.same fun g C f hg => hst.block g (lt_of_heap hg) (by
    rintro rfl
    rw [hx] at hg
    simp [boxO] at hg)
  have H1 := Lib.hid (hkeep _ _ hsl.1)
  have H2 := Lib.hid (hkeep _ _ hsl.2)
  have HW := Lib.hid hw1
  have HX := Lib.hid hx1
  have HS := Lib.hid hst
  clear hsl h4 htk hdr ha' hw1 hx1 hst hkeep hk
  have hN : L.length ≤ cap := h2
  generalize L.length = N at *
  have hki : (k : Int) ≤ (N : Int) := by omega
  have hcap : (N : Int) ≤ (cap : Int) := by omega
  go_enter Try.func75, Try.ntmps75
  go_wp2
  all_goals (
    have e := fun (v : Value) (hv : v = .slice a' (N - k) (cap - k)) => (show w.setCell ⟨x, 0, none⟩ v = w1 by rw [hv]; exact HW.out)
    go_ret
    rw [e _ (by rw [← HA.out]; simp [h])]
    exact ⟨_, rfl, (by first | exact H1.out | (have h1 := H1.out; rw [h] at h1; exact h1)), _, H2.out, HX.out, HS.out⟩)
theorem taker_any {v : Value} {L : List UInt8} {w : World} (h : Rest v L w) :
    Calls Try.prog 62 #[v] w fun e w' => e = .returned (.func (.func 75) #[] #[.pointer (some ⟨w.heap.size, 0, none⟩)]) ∧ w'.heap[w.heap.size]? = some (boxO v) ∧ Rest v L w' ∧ Below w.heap.size w w' := by
  have hmf : ∀ (fn : Fn) (first cap : Array Value) (w : World), (Instr.makeFunc fn first cap).run Try.prog w = .ok (.func fn first cap) w := fun _ _ _ _ => rfl
  have hB : Below w.heap.size w (w.alloc (boxO v)) := (Below.refl _ w).alloc (Nat.le_refl _) _
  obtain ⟨a, cap, rfl, _⟩ := id h
  have HX := Lib.hid (show (w.alloc (boxO (.slice a L.length cap))).heap[w.heap.size]? = some (boxO (.slice a L.length cap)) from heap_alloc_new _ _)
  have HR := Lib.hid (h.below hB)
  have HB := Lib.hid hB
  clear h hB
  go_enter Try.func62, Try.ntmps62
  go_wp2
  go_ret
  exact ⟨rfl, HX.out, HR.out, HB.out⟩

/-! ### what sector 0 says -/
def saidG (x : ByteArray) : Nat := valN ((x.data.toList.drop 2).take 6)
def saidU (x : ByteArray) : Nat := valN ((x.data.toList.drop 8).take 4)
def saidOk (x : ByteArray) : Bool := decide (saidG x ≤ 1099511627776) && (x.toList == (headB (saidG x) (saidU x)).toList)
theorem saidOk_is (x : ByteArray) : saidOk x = true ↔ saidG x ≤ 1099511627776 ∧ x = headB (saidG x) (saidU x) := by
  rw [saidOk, Bool.and_eq_true, decide_eq_true_eq, beq_iff_eq, ByteArray.toList_eq, ByteArray.toList_eq]
  exact and_congr_right fun _ => ⟨fun e => ByteArray.ext (Array.toList_inj.1 e), fun e => congrArg (fun b : ByteArray => b.data.toList) e⟩
theorem leN_le (l : List UInt8) (k : Nat) (h : l.length ≤ k) : valN l < 256 ^ k := Nat.lt_of_lt_of_le (valN_lt l) (Nat.pow_le_pow_right (by decide) h)
theorem saidG_le (x : ByteArray) : saidG x ≤ 281474976710655 := by
  have := leN_le ((x.data.toList.drop 2).take 6) 6 (by simp; omega)
  unfold saidG; omega
theorem saidU_le (x : ByteArray) : saidU x ≤ 4294967295 := by
  have := leN_le ((x.data.toList.drop 8).take 4) 4 (by simp; omega)
  unfold saidU; omega

set_option maxRecDepth 100000 in
set_option maxHeartbeats 2000000 in
theorem said_any (x : ByteArray) (hx : x.size = 64) (w : World) :
    Calls Try.prog 40 #[.string x] w fun e w' => e = .returned (.tuple #[.int .i64 (saidG x), .int .i64 (saidU x), .bool (saidOk x)]) ∧ Below w.heap.size w w' := by
  have hcv := Lib.run_convert_string_bytes (P := Try.prog) w 9 43 5 x Try.underlying9 Try.underlying43 Try.underlying5
  obtain ⟨hB0, hs0⟩ := below_bytesWorld w 5 x
  have hlen : x.data.toList.length = x.size := len_of x
  have hr0 : Rest (.slice (some ⟨w.heap.size, 0, none⟩) x.size (grownCap w x.size 0 5)) x.data.toList (Lib.bytesWorld w 5 x) := by
    refine ⟨_, _, by rw [hlen], by rw [hlen]; exact grownCap_ge w x.size 0 _, grownCap_le_maxLen _ _ _ _ (by unfold maxLen; omega), fun _ => ⟨w.heap.size, 0, _, _, rfl, Lib.bytesWorld_at_new w _ x, fun i hi => ?_⟩⟩
    rw [Nat.zero_add, Lib.bytesWorld_cell w _ x i (by omega), List.getD_eq_getElem?_getD, List.getElem?_eq_getElem hi, Option.getD_some]
  generalize Lib.bytesWorld w 5 x = w0 at *
  generalize grownCap w x.size 0 5 = cap at *
  have hG := saidG_le x
  have hU := saidU_le x
  have C1 := taker_any hr0
  have hd8 : ((x.data.toList.drop 2).drop 6) = x.data.toList.drop 8 := by rw [List.drop_drop]
  have CF := fun w => first_any (saidG x) (saidU x) (by omega) (by omega) w
  have HB0 := Lib.hid hB0
  rw [hx] at hcv C1
  clear hx hlen hB0 hs0 hr0
  obtain ⟨G, hg⟩ : ∃ G, saidG x = G := ⟨_, rfl⟩
  obtain ⟨U, hu⟩ : ∃ U, saidU x = U := ⟨_, rfl⟩
  obtain ⟨O, ho⟩ : ∃ O, saidOk x = O := ⟨_, rfl⟩
  rw [ho, hg, hu]
  rw [hg, hu] at CF
  rw [hg] at hG
  have HO := Lib.hid (show O = (decide (G ≤ 1099511627776) && (x.toList == (headB G U).toList)) by rw [← ho, saidOk, hg, hu])
  have HG := Lib.hid hg
  have HU := Lib.hid hu
  clear hg hu ho hU
  generalize headB G U = X at *
  go_enter Try.func40, Try.ntmps40
  go_wp2_with fail
  refine C1.mono ?_
  rintro e w1 ⟨rfl, hx1, hr1, hB1⟩
  have HB1 := Lib.hid (HB0.out.trans (hB1.mono HB0.out.size))
  have hq : w.heap.size ≤ w0.heap.size := HB0.out.size
  have C2 := take_any (n := 2) hx1 hr1 (by omega)
  go_wp2_with fail
  refine C2.mono ?_
  rintro e w2 ⟨u2, v2, rfl, _, hr2, hx2, hs2⟩
  have HB2 := Lib.hid (HB1.out.trans (hs2.below (B := w.heap.size) (fun k e => by subst e; exact hq) HB1.out.size))
  have C3 := take_any (n := 6) hx2 hr2 (by omega)
  rw [hd8] at C3
  clear hx1 hr1 hB1 hs2 hx2 hr2 C1 C2
  go_wp2_with fail
  refine C3.mono ?_
  rintro e w3 ⟨u3, v3, rfl, hu3, hr3, hx3, hs3⟩
  have HB3 := Lib.hid (HB2.out.trans (hs3.below (B := w.heap.size) (fun k e => by subst e; exact hq) HB2.out.size))
  have C4 := value_any hu3 (by simp; omega)
  rw [show valN ((x.data.toList.drop 2).take 6) = G from HG.out] at C4
  have C5 := take_any (n := 4) hx3 hr3 (by omega)
  clear C3 hs3 hu3 hr3 hx3 hd8
  go_wp2_with fail
  refine C4.mono ?_
  rintro e w' ⟨rfl, rfl⟩
  go_wp2_with fail
  refine C5.mono ?_
  rintro e w5 ⟨u5, v5, rfl, hu5, _, _, hs5⟩
  have HB5 := Lib.hid (HB3.out.trans (hs5.below (B := w.heap.size) (fun k e => by subst e; exact hq) HB3.out.size))
  have C6 := value_any hu5 (by simp; omega)
  rw [show valN ((x.data.toList.drop 8).take 4) = U from HU.out] at C6
  clear C4 C5 hs5 hu5
  go_wp2_with fail
  refine C6.mono ?_
  rintro e w' ⟨rfl, rfl⟩
  clear C6
  by_cases hg : G ≤ 1099511627776
  · have hgi : (G : Int) ≤ 1099511627776 := by omega
    go_wp2_with fail
    refine (CF _).mono ?_
    rintro e w6 ⟨rfl, hB6⟩
    have HB6 := Lib.hid (HB5.out.trans (hB6.mono HB5.out.size))
    clear hB6
    go_wp2
    go_ret3
    exact ⟨by rw [HO.out]; simp [hg], HB6.out⟩
  · have hgi : ¬ (G : Int) ≤ 1099511627776 := by omega
    go_wp2
    go_ret3
    exact ⟨by rw [HO.out]; simp [hg], HB5.out⟩
end Go.Proofs.Ytmbknpipefbelaa
